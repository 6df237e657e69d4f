/-
  A part of the proof.
-/
import Derived.Test.YtnpffnhiefgglaaGreatDoorParw31
import Derived.Test.YtnpffnhiefgglaaGreatDoorParw18
import Derived.Shelf.Bits.Mul64
import Derived.Shelf.Spec.BitsCarry
namespace Go.Proofs.YtnpffnhiefgglaaGreatDoor
set_option maxRecDepth 100000
def bU : Int := 18446744073709551616
theorem bU_pos : 0 < bU := by decide
def valU (f : Nat → Int) : Nat → Int
  | 0 => 0
  | n + 1 => valU f n + f n * bU ^ n
theorem valU_congr {f g : Nat → Int} : ∀ {n : Nat}, (∀ i, i < n → f i = g i) → valU f n = valU g n
  | 0, _ => rfl
  | n + 1, h => by rw [valU, valU, valU_congr (fun i hi => h i (by omega)), h n (by omega)]
theorem valU_add (f g : Nat → Int) : ∀ n, valU (fun i => f i + g i) n = valU f n + valU g n
  | 0 => rfl
  | n + 1 => by simp only [valU]; rw [valU_add f g n, Int.add_mul]; omega
theorem valU_sub (f g : Nat → Int) : ∀ n, valU (fun i => f i - g i) n = valU f n - valU g n
  | 0 => rfl
  | n + 1 => by simp only [valU]; rw [valU_sub f g n, Int.sub_mul]; omega
theorem valU_mul (f : Nat → Int) (k : Int) : ∀ n, valU (fun i => f i * k) n = valU f n * k
  | 0 => by simp [valU]
  | n + 1 => by simp only [valU]; rw [valU_mul f k n, Int.add_mul, Int.mul_right_comm]
theorem valU_split (f : Nat → Int) (a : Nat) : ∀ b, valU f (a + b) = valU f a + bU ^ a * valU (fun i => f (a + i)) b
  | 0 => by simp [valU]
  | b + 1 => by
    rw [← Nat.add_assoc, valU, valU_split f a b, valU, Int.mul_add, Int.pow_add]
    have : f (a + b) * (bU ^ a * bU ^ b) = bU ^ a * (f (a + b) * bU ^ b) := by rw [← Int.mul_assoc, Int.mul_comm (f (a + b)), Int.mul_assoc]
    omega
theorem powU_pos : ∀ n : Nat, (0 : Int) < bU ^ n
  | 0 => by decide
  | n + 1 => by rw [Int.pow_succ]; exact Int.mul_pos (powU_pos n) bU_pos
theorem valU_range {f : Nat → Int} : ∀ {n : Nat}, (∀ i, i < n → 0 ≤ f i ∧ f i < bU) → 0 ≤ valU f n ∧ valU f n < bU ^ n
  | 0, _ => by simp [valU]
  | n + 1, h => by
    have h1 := valU_range (n := n) (fun i hi => h i (by omega))
    have h2 := h n (by omega)
    have hp := powU_pos n
    have h3 : f n * bU ^ n ≤ (bU - 1) * bU ^ n := Int.mul_le_mul_of_nonneg_right (by omega) (by omega)
    have h4 : 0 ≤ f n * bU ^ n := Int.mul_nonneg h2.1 (by omega)
    rw [Int.sub_mul, Int.one_mul, Int.mul_comm bU] at h3
    rw [valU, Int.pow_succ]
    omega
/-! ### what goes over -/
def carU (t : Nat → Int) (c : Int) : Nat → Int
  | 0 => c
  | k + 1 => (t k + carU t c k) / bU
def digU (t : Nat → Int) (c : Int) (k : Nat) : Int := (t k + carU t c k) % bU
theorem modU_range (z : Int) : 0 ≤ z % bU ∧ z % bU < bU := ⟨Int.emod_nonneg _ (by have := bU_pos; omega), Int.emod_lt_of_pos _ bU_pos⟩
theorem digU_range (t : Nat → Int) (c : Int) (k : Nat) : 0 ≤ digU t c k ∧ digU t c k < bU := modU_range _
theorem val_carU (t : Nat → Int) (c : Int) : ∀ n, valU (digU t c) n + bU ^ n * carU t c n = valU t n + c
  | 0 => by simp [valU, carU]
  | n + 1 => by
    have ih := val_carU t c n
    have hd : bU * carU t c (n + 1) + digU t c n = t n + carU t c n := Int.mul_ediv_add_emod _ _
    have e1 : bU ^ (n + 1) * carU t c (n + 1) = bU ^ n * (bU * carU t c (n + 1)) := by rw [Int.pow_succ, Int.mul_assoc]
    have e2 : digU t c n * bU ^ n = bU ^ n * digU t c n := Int.mul_comm _ _
    have e3 : bU ^ n * (bU * carU t c (n + 1)) + bU ^ n * digU t c n = bU ^ n * (t n + carU t c n) := by rw [← Int.mul_add, hd]
    rw [Int.mul_add] at e3
    have e4 : t n * bU ^ n = bU ^ n * t n := Int.mul_comm _ _
    simp only [valU]
    omega
def numU (z : Int) (i : Nat) : Int := z / bU ^ i % bU
theorem numU_range (z : Int) (i : Nat) : 0 ≤ numU z i ∧ numU z i < bU := modU_range _
theorem low_div {a b q : Int} (ha : 0 ≤ a) (hb : a < b) : (a + b * q) / b = q := by
  rw [Int.add_mul_ediv_left _ _ (by omega), Int.ediv_eq_zero_of_lt ha hb]
  omega
theorem digU_num (t : Nat → Int) (c : Int) {n k : Nat} (h : k < n) : digU t c k = numU (valU t n + c) k := by
  obtain ⟨r, rfl⟩ : ∃ r, n = (k + 1) + r := ⟨n - (k + 1), by omega⟩
  have h1 := valU_split t (k + 1) r
  have h2 := val_carU t c (k + 1)
  have h3 := valU_range (f := digU t c) (n := k) (fun i _ => digU_range t c i)
  rw [valU] at h2
  generalize valU (fun i => t (k + 1 + i)) r = R at h1
  have hs : bU ^ k * bU = bU ^ (k + 1) := (Int.pow_succ bU k).symm
  have e : valU t (k + 1 + r) + c = valU (digU t c) k + bU ^ k * (digU t c k + bU * (carU t c (k + 1) + R)) := by
    rw [Int.mul_add, Int.mul_add bU, Int.mul_add (bU ^ k), ← Int.mul_assoc (bU ^ k), ← Int.mul_assoc (bU ^ k), hs, Int.mul_comm (bU ^ k) (digU t c k)]
    omega
  rw [numU, e, low_div h3.1 h3.2, Int.add_mul_emod_self_left, Int.emod_eq_of_lt (digU_range t c k).1 (digU_range t c k).2]
theorem carU_num (t : Nat → Int) (c : Int) (n : Nat) : carU t c n = (valU t n + c) / bU ^ n := by
  have h3 := valU_range (f := digU t c) (n := n) (fun i _ => digU_range t c i)
  rw [← val_carU, low_div h3.1 h3.2]
theorem val_numU (z : Int) : ∀ n, valU (numU z) n = z % bU ^ n := by
  intro n
  have h := val_carU (fun i => if i = 0 then z else 0) 0 n
  cases n with
  | zero => simp [valU, Int.emod_one]
  | succ n =>
    have hz : valU (fun i => if i = 0 then z else 0) (n + 1) = z := by
      have := valU_split (fun i => if i = 0 then z else 0) 1 n
      rw [Nat.add_comm, this]
      have hr : valU (fun i => if 1 + i = 0 then z else 0) n = 0 := by
        have : ∀ m, valU (fun i => if 1 + i = 0 then z else 0) m = 0 := by
          intro m
          induction m with
          | zero => rfl
          | succ m ih => rw [valU, ih, if_neg (by omega)]; omega
        exact this n
      rw [hr]
      simp [valU]
    rw [hz] at h
    have hd : valU (digU (fun i => if i = 0 then z else 0) 0) (n + 1) = valU (numU z) (n + 1) := valU_congr fun i hi => by
      rw [digU_num _ 0 hi, hz, Int.add_zero]
    have h3 := valU_range (f := numU z) (n := n + 1) (fun i _ => numU_range z i)
    rw [hd, Int.add_zero] at h
    have : z % bU ^ (n + 1) = (valU (numU z) (n + 1) + bU ^ (n + 1) * carU (fun i => if i = 0 then z else 0) 0 (n + 1)) % bU ^ (n + 1) := by rw [h]
    rw [this, Int.add_mul_emod_self_left, Int.emod_eq_of_lt h3.1 h3.2]
theorem numU_like {a b q : Int} {n : Nat} (h : a = b + q * bU ^ n) {k : Nat} (hk : k < n) : numU a k = numU b k := by
  obtain ⟨r, rfl⟩ : ∃ r, n = k + (r + 1) := ⟨n - (k + 1), by omega⟩
  have e : a = b + bU ^ k * (q * bU ^ r * bU) := by
    rw [h, Int.pow_add, Int.pow_succ, ← Int.mul_assoc q, Int.mul_comm q, Int.mul_assoc, Int.mul_assoc]
  rw [numU, numU, e, Int.add_mul_ediv_left _ _ (by have := powU_pos k; omega), Int.add_mul_emod_self_right]
theorem numU_mod (z : Int) {n k : Nat} (hk : k < n) : numU (z % bU ^ n) k = numU z k := by
  have := Int.mul_ediv_add_emod z (bU ^ n)
  refine (numU_like (a := z) (b := z % bU ^ n) (q := z / bU ^ n) (n := n) ?_ hk).symm
  rw [Int.mul_comm (z / bU ^ n)]
  omega
theorem carU_le {t : Nat → Int} {c : Int} (ht : ∀ k, 0 ≤ t k ∧ t k ≤ bU * (bU - 1)) (hc : 0 ≤ c ∧ c < bU) : ∀ k, 0 ≤ carU t c k ∧ carU t c k < bU
  | 0 => hc
  | k + 1 => by
    have ih := carU_le ht hc k
    have h := ht k
    rw [Int.mul_sub, Int.mul_one] at h
    refine ⟨Int.ediv_nonneg (by omega) (by have := bU_pos; omega), Int.ediv_lt_of_lt_mul bU_pos (by omega)⟩
theorem termU {x y z : Int} (hx : 0 ≤ x ∧ x < bU) (hy : 0 ≤ y ∧ y < bU) (hz : 0 ≤ z ∧ z < bU) : 0 ≤ x + y * z ∧ x + y * z ≤ bU * (bU - 1) := by
  have h1 : 0 ≤ y * z := Int.mul_nonneg hy.1 hz.1
  have h2 : y * z ≤ (bU - 1) * (bU - 1) := Int.mul_le_mul (by omega) (by omega) hz.1 (by have := bU_pos; omega)
  have h3 : (bU - 1) * (bU - 1) = bU * (bU - 1) - (bU - 1) := by rw [Int.sub_mul, Int.one_mul]
  omega
/-! ### four parts -/
theorem b4U : bU ^ 4 = 2 * fldP + 38 := by decide
theorem val_four {z : Int} (h0 : 0 ≤ z) (h1 : z < bU ^ 4) : valU (numU z) 4 = z := by rw [val_numU, Int.emod_eq_of_lt h0 h1]
def lessT (x y : Int) (k : Nat) : Int := numU x k + (bU - 1 - numU y k)
theorem val_ones : valU (fun _ => bU - 1) 4 = bU ^ 4 - 1 := by decide
theorem val_lessT {x y : Int} (hx0 : 0 ≤ x) (hx : x < bU ^ 4) (hy0 : 0 ≤ y) (hy : y < bU ^ 4) : valU (lessT x y) 4 = x + (bU ^ 4 - 1 - y) := by
  have h1 := valU_add (numU x) (fun k => bU - 1 - numU y k) 4
  have h2 := valU_sub (fun _ => bU - 1) (numU y) 4
  rw [val_four hx0 hx] at h1
  rw [val_four hy0 hy, val_ones] at h2
  rw [h2] at h1
  exact h1
theorem dig_less {x y : Int} (hx0 : 0 ≤ x) (hx : x < bU ^ 4) (hy0 : 0 ≤ y) (hy : y < bU ^ 4) {k : Nat} (hk : k < 4) : digU (lessT x y) 1 k = numU ((x - y) % bU ^ 4) k := by
  rw [digU_num _ _ hk, val_lessT hx0 hx hy0 hy, numU_mod _ hk]
  exact numU_like (q := 1) (by omega) hk
theorem car_less {x y : Int} (hx0 : 0 ≤ x) (hx : x < bU ^ 4) (hy0 : 0 ≤ y) (hy : y < bU ^ 4) : carU (lessT x y) 1 4 = if y ≤ x then 1 else 0 := by
  rw [carU_num, val_lessT hx0 hx hy0 hy]
  have h4 : (0 : Int) < bU ^ 4 := powU_pos 4
  generalize bU ^ 4 = W at *
  split
  · rw [show x + (W - 1 - y) + 1 = (x - y) + W * 1 by omega, low_div (by omega) (by omega)]
  · exact Int.ediv_eq_zero_of_lt (by omega) (by omega)
theorem lessT_le (x y : Int) (k : Nat) : 0 ≤ lessT x y k ∧ lessT x y k ≤ bU * (bU - 1) := by
  have h := termU (x := numU x k) (y := bU - 1 - numU y k) (z := 1) (numU_range x k) (by have := numU_range y k; omega) (by decide)
  rw [Int.mul_one] at h
  exact h
def plusT (x y : Int) (k : Nat) : Int := numU x k + numU y k
theorem plusT_le (x y : Int) (k : Nat) : 0 ≤ plusT x y k ∧ plusT x y k ≤ bU * (bU - 1) := by
  have h := termU (x := numU x k) (y := numU y k) (z := 1) (numU_range x k) (numU_range y k) (by decide)
  rw [Int.mul_one] at h
  exact h
theorem dig_plus {x y : Int} (hx0 : 0 ≤ x) (hx : x < bU ^ 4) (hy0 : 0 ≤ y) (hy : y < bU ^ 4) {k : Nat} (hk : k < 4) : digU (plusT x y) 0 k = numU (x + y) k := by
  have h1 := valU_add (numU x) (numU y) 4
  rw [val_four hx0 hx, val_four hy0 hy] at h1
  rw [digU_num _ _ hk]
  show numU (valU (fun i => numU x i + numU y i) 4 + 0) k = _
  rw [h1, Int.add_zero]
def overT (x y : Int) (k : Nat) : Int := numU x k + numU y k * 38
theorem overT_le (x y : Int) (k : Nat) : 0 ≤ overT x y k ∧ overT x y k ≤ bU * (bU - 1) := termU (numU_range x k) (numU_range y k) (by decide)
theorem val_overT {x y : Int} (hx0 : 0 ≤ x) (hx : x < bU ^ 4) (hy0 : 0 ≤ y) (hy : y < bU ^ 4) : valU (overT x y) 4 = x + y * 38 := by
  have h1 := valU_add (numU x) (fun i => numU y i * 38) 4
  have h2 := valU_mul (numU y) 38 4
  rw [val_four hx0 hx] at h1
  rw [val_four hy0 hy] at h2
  rw [h2] at h1
  exact h1
theorem dig_over {x y : Int} (hx0 : 0 ≤ x) (hx : x < bU ^ 4) (hy0 : 0 ≤ y) (hy : y < bU ^ 4) {k : Nat} (hk : k < 4) : digU (overT x y) 0 k = numU ((x + y * 38) % bU ^ 4) k := by
  rw [digU_num _ _ hk, val_overT hx0 hx hy0 hy, Int.add_zero, numU_mod _ hk]
theorem car_over {x y : Int} (hx0 : 0 ≤ x) (hx : x < bU ^ 4) (hy0 : 0 ≤ y) (hy : y < bU ^ 4) : carU (overT x y) 0 4 = (x + y * 38) / bU ^ 4 := by
  rw [carU_num, val_overT hx0 hx hy0 hy, Int.add_zero]
theorem num_one {c : Int} (h0 : 0 ≤ c) (h1 : c < bU) (k : Nat) : numU c k = if k = 0 then c else 0 := by
  split
  · rename_i h; subst h
    rw [numU, Int.pow_zero, Int.ediv_one, Int.emod_eq_of_lt h0 h1]
  · rename_i h
    obtain ⟨j, rfl⟩ : ∃ j, k = j + 1 := ⟨k - 1, by omega⟩
    have hp := powU_pos j
    have : c < bU ^ (j + 1) := by
      rw [Int.pow_succ]
      have : 1 * bU ≤ bU ^ j * bU := Int.mul_le_mul_of_nonneg_right (by omega) (by have := bU_pos; omega)
      omega
    rw [numU, Int.ediv_eq_zero_of_lt h0 this]
    rfl
theorem num_nought (k : Nat) : numU 0 k = 0 := by rw [numU, Int.zero_ediv]; rfl
theorem num_inj {a b : Int} (ha0 : 0 ≤ a) (ha : a < bU ^ 4) (hb0 : 0 ≤ b) (hb : b < bU ^ 4) (h : ∀ k, k < 4 → numU a k = numU b k) : a = b := by
  rw [← val_four ha0 ha, ← val_four hb0 hb]
  exact valU_congr h
end Go.Proofs.YtnpffnhiefgglaaGreatDoor
namespace Go.Proofs.YtnpffnhiefgglaaGreatDoor
open Go.RowKit
set_option maxRecDepth 100000
def uV (f : Nat → Int) (n : Nat) : List Value := (zL f n).map (Value.int .u64)
theorem uV_length (f : Nat → Int) (n : Nat) : (uV f n).length = n := by simp [uV, zL]
theorem uV_get (f : Nat → Int) {n k : Nat} (h : k < n) : (uV f n)[k]? = some (.int .u64 (f k)) := by simp [uV, zL, h]
theorem uV_one (f : Nat → Int) (n : Nat) : ∀ v ∈ uV f n, v.oneCell' = true := by
  intro v hv
  simp only [uV, List.mem_map] at hv
  obtain ⟨x, _, rfl⟩ := hv
  rfl
theorem uV_set (f : Nat → Int) (n k : Nat) (v : Int) : (uV f n).set k (.int .u64 v) = uV (fun i => if i = k then v else f i) n := by
  apply List.ext_getElem?
  intro j
  by_cases hj : j < n
  · by_cases hk : k = j
    · subst hk
      rw [List.getElem?_set_self (by rw [uV_length]; exact hj), uV_get _ hj]
      simp
    · rw [List.getElem?_set_ne hk, uV_get _ hj, uV_get _ hj]
      simp [Ne.symm hk]
  · rw [List.getElem?_eq_none (by simp [uV_length]; omega), List.getElem?_eq_none (by simp [uV_length]; omega)]
theorem uV_congr {f g : Nat → Int} {n : Nat} (h : ∀ i, i < n → f i = g i) : uV f n = uV g n := by
  have e : zL f n = zL g n := List.map_congr_left fun i hi => h i (List.mem_range.1 hi)
  rw [uV, e, uV]
def RowU (ty n : Nat) (w : World) (lo g : Nat) (f : Nat → Int) : Prop := w.ownsRow lo ty 1 (.slice (some ⟨g, 0, none⟩) n n) n (uV f n)
section
variable {ty n : Nat} {w w' : World} {lo g : Nat} {f : Nat → Int}
theorem RowU.cell (h : RowU ty n w lo g f) (i : Nat) (hi : i < n) : w.cell? ⟨g, i, none⟩ = some (.int .u64 (f i)) := by
  have h' : w.ownsRow lo ty 1 (.slice (some ⟨g, 0, none⟩) n n) n (uV f n) := h
  rw [h'.cellAt i (by omega), uV_get _ hi]
theorem RowU.frozen (h : RowU ty n w lo g f) (i : Nat) : w.frozen? ⟨g, i, none⟩ = false := World.ownsRow.frozenAt h i
theorem RowU.lt (h : RowU ty n w lo g f) : lo ≤ g ∧ g < w.heap.size := World.ownsRow.lt h g rfl
theorem RowU.below (h : RowU ty n w lo g f) (hb : Below w.heap.size w w') : RowU ty n w' lo g f := owns_below h hb
theorem RowU.kept {r : Nat} (h : RowU ty n w lo g f) (hg : w.grownBy w' (some r)) (hne : g ≠ r) : RowU ty n w' lo g f := World.ownsRow.kept h hg (.inr (by simp [Value.ownBlock]; exact fun e => hne e))
theorem RowU.set (h : RowU ty n w lo g f) (k : Nat) (v : Int) : RowU ty n (w.setCell ⟨g, k, none⟩ (.int .u64 v)) lo g (fun i => if i = k then v else f i) ∧ w.grownBy (w.setCell ⟨g, k, none⟩ (.int .u64 v)) (some g) := by
  have st := World.ownsRow.stored h k (.int .u64 v)
  rw [uV_set] at st
  exact st
theorem RowU.congr {f' : Nat → Int} (h : RowU ty n w lo g f) (he : ∀ i, i < n → f i = f' i) : RowU ty n w lo g f' := by
  unfold RowU at *
  rw [← uV_congr he]
  exact h
theorem RowU.made (w : World) (ty n lo : Nat) (f : Nat → Int) (hn : n ≤ 1000) (hlo : lo ≤ w.heap.size) : RowU ty n (w.alloc (.cells (uV f n).toArray ty)) lo w.heap.size f := by
  refine ⟨by simp [uV_length], .inr ⟨w.heap.size, n, _, rfl, hlo, heap_alloc_new w _, Nat.le_refl _, by unfold maxLen; omega, by simp [uV_length], ?_⟩⟩
  rw [List.take_of_length_le (by simp [uV_length])]
theorem RowU.range (h : RowU ty n w lo g f) : w.rangeAt g 0 (uV f n) := by
  intro j v hv
  have hj : j < n := by have := (List.getElem?_eq_some_iff.1 hv).1; rwa [uV_length] at this
  rw [Nat.zero_add, World.ownsRow.cellAt h j (by omega), hv]
theorem RowU.there (h : RowU ty n w lo g f) : w.there g 0 n := by
  intro j hj
  rw [Nat.zero_add, h.cell j hj]
  exact ⟨rfl, h.frozen j⟩
theorem RowU.put {f' : Nat → Int} (h : RowU ty n w lo g f) : RowU ty n (w.setCells g 0 (uV f' n)) lo g f' ∧ w.grownBy (w.setCells g 0 (uV f' n)) (some g) := by
  have k := zPut (uV f' n) 0 w (uV f n) (by rw [uV_length]; omega) (uV_length f n) h
  refine ⟨?_, k.2⟩
  have k1 := k.1
  rw [List.take_zero, List.nil_append] at k1
  exact k1
end
theorem infoU4 : (Tryz.prog.info? 112).map (fun i => (i.zero, i.size)) = some (some (.agg (uV (fun _ => 0) 4).toArray), 4) := by kernel_rfl
def uP (z : Int) : Value := .agg (uV (numU z) 4).toArray
set_option maxHeartbeats 2000000 in
theorem mul64_any (x y : Nat) (hx : x < 18446744073709551616) (hy : y < 18446744073709551616) (w : World) :
    Calls Tryz.prog 180 #[.int .u64 x, .int .u64 y] w fun e w' => e = .returned (.tuple #[.int .u64 ((x * y / 18446744073709551616 : Nat) : Int), .int .u64 ((x * y % 18446744073709551616 : Nat) : Int)]) ∧ w' = w := by
  obtain ⟨bd, bt, bw, hhi⟩ := Lib.mul64_hi x y hx hy
  have ba := Lib.half_mul_le (a := x / 4294967296) (b := y / 4294967296) (by omega) (by omega)
  have bb := Lib.half_mul_le (a := x / 4294967296) (b := y % 4294967296) (by omega) (by omega)
  have bc := Lib.half_mul_le (a := x % 4294967296) (b := y / 4294967296) (by omega) (by omega)
  have ba' : x / 4294967296 * (y / 4294967296) < 18446744073709551616 := by omega
  have bb' : x / 4294967296 * (y % 4294967296) < 18446744073709551616 := by omega
  have bc' : x % 4294967296 * (y / 4294967296) < 18446744073709551616 := by omega
  have bh1 : x / 4294967296 * (y / 4294967296) + (x / 4294967296 * (y % 4294967296) + x % 4294967296 * (y % 4294967296) / 4294967296) / 4294967296 < 18446744073709551616 := by omega
  have bh : x / 4294967296 * (y / 4294967296) + (x / 4294967296 * (y % 4294967296) + x % 4294967296 * (y % 4294967296) / 4294967296) / 4294967296 + ((x / 4294967296 * (y % 4294967296) + x % 4294967296 * (y % 4294967296) / 4294967296) % 4294967296 + x % 4294967296 * (y / 4294967296)) / 4294967296 < 18446744073709551616 := by omega
  go_enter Tryz.func180, Tryz.ntmps180
  go_wp2
  simp only [Mul64.maskN x hx, Mul64.maskN y hy, Mul64.divN, Mul64.mulN, Mul64.addN, Mul64.wrapN _ bd, Mul64.wrapN _ bb', Mul64.wrapN _ bt, Mul64.maskN _ bt, Mul64.wrapN _ bc', Mul64.wrapN _ bw, Mul64.wrapN _ ba', Mul64.wrapN _ bh1, Mul64.wrapN _ bh, Mul64.wrapM (x * y)]
  rw [hhi]
  go_ret2
  exact ⟨rfl, rfl⟩
theorem add64_run (x y c : Nat) (hc : c ≤ 1) (w : World) :
    (callFunc 181 #[.int .u64 x, .int .u64 y, .int .u64 c]).run Tryz.prog w =
      .ok (.value (.tuple #[.int .u64 (((x + y + c) % 18446744073709551616 : Nat) : Int), .int .u64 (((x + y + c) / 18446744073709551616 : Nat) : Int)])) w := by
  rw [run_callFunc_extern Tryz.func181 (by kernel_rfl) (by kernel_rfl) (by kernel_rfl) (e := add64Entry) (by kernel_rfl), run_add64 x y c (by omega) (by omega) (by omega) (by omega)]
  simp only [Result.andThen]
  congr 5 <;> omega
theorem add64_int (x y s v : Int) (hx : 0 ≤ x) (hy : 0 ≤ y) (hs : (x + y) % 18446744073709551616 = s) (hv : (x + y) / 18446744073709551616 = v) (w : World) :
    (callFunc 181 #[.int .u64 x, .int .u64 y, .int .u64 0]).run Tryz.prog w = .ok (.value (.tuple #[.int .u64 s, .int .u64 v])) w := by
  obtain ⟨a, rfl⟩ : ∃ a : Nat, x = a := ⟨x.toNat, by omega⟩
  obtain ⟨b, rfl⟩ : ∃ b : Nat, y = b := ⟨y.toNat, by omega⟩
  have h := add64_run a b 0 (by omega) w
  have e1 : (((a + b + 0) % 18446744073709551616 : Nat) : Int) = s := by omega
  have e2 : (((a + b + 0) / 18446744073709551616 : Nat) : Int) = v := by omega
  rw [e1, e2] at h
  exact h
theorem mul64_int (x y h l : Int) (hx : 0 ≤ x ∧ x < 18446744073709551616) (hy : 0 ≤ y ∧ y < 18446744073709551616) (hh : x * y / 18446744073709551616 = h) (hl : x * y % 18446744073709551616 = l) (w : World) :
    Calls Tryz.prog 180 #[.int .u64 x, .int .u64 y] w fun e w' => e = .returned (.tuple #[.int .u64 h, .int .u64 l]) ∧ w' = w := by
  obtain ⟨a, rfl⟩ : ∃ a : Nat, x = a := ⟨x.toNat, by omega⟩
  obtain ⟨b, rfl⟩ : ∃ b : Nat, y = b := ⟨y.toNat, by omega⟩
  have k := mul64_any a b (by omega) (by omega) w
  have e1 : ((a * b / 18446744073709551616 : Nat) : Int) = h := by rw [← hh, Int.natCast_ediv, Int.natCast_mul]; rfl
  have e2 : ((a * b % 18446744073709551616 : Nat) : Int) = l := by rw [← hl, Int.natCast_emod, Int.natCast_mul]; rfl
  rw [e1, e2] at k
  exact k
def tellV (g : Nat) : Value := .func (.func 179) #[] #[.pointer (some ⟨g, 0, none⟩)]
set_option maxHeartbeats 2000000 in
theorem sums_any (c : Int) (w : World) :
    Calls Tryz.prog 130 #[.int .u64 c] w fun e w' => e = .returned (tellV w.heap.size) ∧ w' = w.alloc (.cells #[.int .u64 c] 110) := by
  have hmf : ∀ (fn : Fn) (first cap : Array Value) (w : World), (Instr.makeFunc fn first cap).run Tryz.prog w = .ok (.func fn first cap) w := fun _ _ _ _ => rfl
  go_enter Tryz.func130, Tryz.ntmps130
  go_wp2_with (fail)
  go_ret
  exact ⟨rfl, rfl⟩
set_option maxHeartbeats 4000000 in
theorem tell_any (g : Nat) (x y z c r o : Int) (w : World) (hx : 0 ≤ x ∧ x < bU) (hy : 0 ≤ y ∧ y < bU) (hz : 0 ≤ z ∧ z < bU) (hc : 0 ≤ c ∧ c < bU) (hr : (x + y * z + c) % bU = r) (ho : (x + y * z + c) / bU = o)
    (hcell : w.cell? ⟨g, 0, none⟩ = some (.int .u64 c)) (hfr : w.frozen? ⟨g, 0, none⟩ = false) :
    Calls Tryz.prog 179 #[.int .u64 x, .int .u64 y, .int .u64 z, .pointer (some ⟨g, 0, none⟩)] w fun e w' => e = .returned (.int .u64 r) ∧ w' = w.setCell ⟨g, 0, none⟩ (.int .u64 o) := by
  have ht := termU hx hy hz
  have hyz : 0 ≤ y * z := Int.mul_nonneg hy.1 hz.1
  unfold bU at hx hy hz hc hr ho ht
  obtain ⟨p, hp⟩ : ∃ p, p = y * z := ⟨_, rfl⟩
  obtain ⟨h, hh⟩ : ∃ h, h = p / 18446744073709551616 := ⟨_, rfl⟩
  obtain ⟨l, hl⟩ : ∃ l, l = p % 18446744073709551616 := ⟨_, rfl⟩
  obtain ⟨l2, hl2⟩ : ∃ l2, l2 = (l + x) % 18446744073709551616 := ⟨_, rfl⟩
  obtain ⟨f1, hf1⟩ : ∃ f1, f1 = (l + x) / 18446744073709551616 := ⟨_, rfl⟩
  obtain ⟨f2, hf2⟩ : ∃ f2, f2 = (l2 + c) / 18446744073709551616 := ⟨_, rfl⟩
  rw [← hp] at hr ho ht hyz
  have M := mul64_int y z h l hy hz (by rw [← hp, hh]) (by rw [← hp, hl])
  have A1 := add64_int l x l2 f1 (by omega) hx.1 hl2.symm hf1.symm
  have A2 := add64_int l2 c r f2 (by omega) hc.1 (by omega) hf2.symm
  obtain ⟨s, hs⟩ : ∃ s, s = h + f1 := ⟨_, rfl⟩
  have es : h + f1 = s := hs.symm
  have eo : s + f2 = o := by omega
  have ls : 0 ≤ s ∧ s < 18446744073709551616 := by omega
  have lo : 0 ≤ o ∧ o < 18446744073709551616 := by omega
  have ws : IntKind.u64.wrap (h + f1) = s := by rw [IntKind.wrap_u64]; omega
  have wo : IntKind.u64.wrap (s + f2) = o := by rw [IntKind.wrap_u64]; omega
  clear hp hh hl hl2 hf1 hf2 hs hr ho ht hyz
  go_enter Tryz.func179, Tryz.ntmps179
  go_wp2_with (fail)
  refine (M _).mono ?_
  rintro e w1 ⟨rfl, rfl⟩
  go_wp2_with (fail)
  go_ret
  exact ⟨rfl, rfl⟩
theorem xor_all (b : Int) (h0 : 0 ≤ b) (h1 : b < 18446744073709551616) : bits .xor .u64 18446744073709551615 b = 18446744073709551615 - b := by
  obtain ⟨n, rfl⟩ : ∃ n : Nat, b = n := ⟨b.toNat, by omega⟩
  have h := bits_xor_u64_nat 18446744073709551615 n (by omega) (by omega)
  have e : 18446744073709551615 ^^^ n = 18446744073709551615 - n := by
    apply Nat.eq_of_testBit_eq
    intro i
    have h1 := Nat.testBit_two_pow_sub_one 64 i
    have h2 := Nat.testBit_two_pow_sub_succ (n := 64) (x := n) (by omega) i
    have e1 : (2 : Nat) ^ 64 - 1 = 18446744073709551615 := by decide
    have e2 : (2 : Nat) ^ 64 - (n + 1) = 18446744073709551615 - n := by omega
    rw [e1] at h1
    rw [e2] at h2
    rw [Nat.testBit_xor, h1, h2]
    by_cases hi : i < 64
    · simp [hi]
    · have : n.testBit i = false := Nat.testBit_lt_two_pow (Nat.lt_of_lt_of_le (show n < 2 ^ 64 by omega) (Nat.pow_le_pow_right (by omega) (by omega)))
      simp [hi, this]
  rw [e] at h
  refine Eq.trans h ?_
  omega
def mixU (d f : Nat → Int) (k i : Nat) : Int := if i < k then d i else f i
theorem mixU_at (d f : Nat → Int) (k : Nat) : mixU d f k k = f k := by rw [mixU, if_neg (by omega)]
theorem mixU_zero (d f : Nat → Int) (i : Nat) : mixU d f 0 i = f i := by rw [mixU, if_neg (by omega)]
theorem mixU_end (d f : Nat → Int) {n i : Nat} (h : i < n) : mixU d f n i = d i := by rw [mixU, if_pos h]
theorem mixU_step (d f : Nat → Int) (k i : Nat) : (if i = k then d k else mixU d f k i) = mixU d f (k + 1) i := by
  unfold mixU
  by_cases h : i = k
  · subst h; rw [if_pos rfl, if_pos (by omega)]
  · rw [if_neg h]
    by_cases h2 : i < k
    · rw [if_pos h2, if_pos (by omega)]
    · rw [if_neg h2, if_neg (by omega)]
theorem rows3 (w : World) (f g h : Nat → Int) {A B Z : Array Value} (hA : A = (uV f 4).toArray) (hB : B = (uV g 4).toArray) (hZ : Z = (uV h 4).toArray) :
    RowU 112 4 (((w.alloc (.cells A 112)).alloc (.cells B 112)).alloc (.cells Z 112)) w.heap.size w.heap.size f ∧ RowU 112 4 (((w.alloc (.cells A 112)).alloc (.cells B 112)).alloc (.cells Z 112)) w.heap.size (w.heap.size + 1) g ∧ RowU 112 4 (((w.alloc (.cells A 112)).alloc (.cells B 112)).alloc (.cells Z 112)) w.heap.size (w.heap.size + 1 + 1) h ∧ Below w.heap.size w (((w.alloc (.cells A 112)).alloc (.cells B 112)).alloc (.cells Z 112)) ∧ (((w.alloc (.cells A 112)).alloc (.cells B 112)).alloc (.cells Z 112)).heap.size = w.heap.size + 1 + 1 + 1 := by
  subst hA hB hZ
  have m0 := RowU.made w 112 4 w.heap.size f (by decide) (Nat.le_refl _)
  obtain ⟨wa, hwa⟩ : ∃ wa, wa = w.alloc (.cells (uV f 4).toArray 112) := ⟨_, rfl⟩
  rw [← hwa] at m0 ⊢
  have sa : wa.heap.size = w.heap.size + 1 := by rw [hwa]; simp
  have ba : Below w.heap.size w wa := by rw [hwa]; exact (Below.refl _ _).alloc (Nat.le_refl _) _
  have m1 := RowU.made wa 112 4 w.heap.size g (by decide) (by omega)
  have b1 : Below wa.heap.size wa (wa.alloc (.cells (uV g 4).toArray 112)) := (Below.refl _ _).alloc (Nat.le_refl _) _
  rw [sa] at m1
  obtain ⟨wb, hwb⟩ : ∃ wb, wb = wa.alloc (.cells (uV g 4).toArray 112) := ⟨_, rfl⟩
  rw [← hwb] at m1 b1 ⊢
  have sb : wb.heap.size = w.heap.size + 1 + 1 := by rw [hwb]; simp [sa]
  have m2 := RowU.made wb 112 4 w.heap.size h (by decide) (by omega)
  have b2 : Below wb.heap.size wb (wb.alloc (.cells (uV h 4).toArray 112)) := (Below.refl _ _).alloc (Nat.le_refl _) _
  rw [sb] at m2
  exact ⟨(m0.below b1).below b2, m1.below b2, m2, below_on (below_on ba b1) b2, by simp [sb]⟩
theorem overRow (wb : World) (lo : Nat) (c : Int) (h : lo ≤ wb.heap.size) : RowU 110 1 (wb.alloc (.cells #[.int .u64 c] 110)) lo wb.heap.size (fun _ => c) ∧ Below wb.heap.size wb (wb.alloc (.cells #[.int .u64 c] 110)) :=
  ⟨RowU.made wb 110 1 lo (fun _ => c) (by decide) h, (Below.refl _ _).alloc (Nat.le_refl _) _⟩
theorem RowU.one {w : World} {lo g : Nat} {c : Int} (h : RowU 110 1 w lo g (fun _ => c)) (o : Int) : RowU 110 1 (w.setCell ⟨g, 0, none⟩ (.int .u64 o)) lo g (fun _ => o) ∧ w.grownBy (w.setCell ⟨g, 0, none⟩ (.int .u64 o)) (some g) :=
  ⟨(h.set 0 o).1.congr fun i hi => by rw [if_pos (by omega)], (h.set 0 o).2⟩
theorem RowU.drew {ty n : Nat} {w : World} {lo g : Nat} {f : Nat → Int} (h : RowU ty n w lo g f) : RowU ty n w.drew lo g f := h.below (Below.refl _ _).drew
theorem sizeU {f : Nat → Int} : (Tryz.prog.info? 112).map (·.size) = some (uV f 4).length := by rw [uV_length]; exact (zero_of_info infoU4).2
theorem sizeU2 {f : Nat → Int} : (Tryz.prog.info? 112).map (·.size) = some (uV f 4).toArray.size := by
  have : (uV f 4).toArray.size = 4 := by simp [uV_length]
  rw [this]; exact (zero_of_info infoU4).2
theorem RowU.there2 {ty : Nat} {w : World} {lo g : Nat} {f f' : Nat → Int} (h : RowU ty 4 w lo g f) : w.there g 0 (uV f' 4).toArray.size := by
  have : (uV f' 4).toArray.size = 4 := by simp [uV_length]
  rw [this]; exact h.there
def numRow (w : World) (g : Nat) : Int := valU (fun i => match w.cell? ⟨g, i, none⟩ with | some (.int _ v) => v | _ => 0) 4
theorem RowU.num {ty : Nat} {w : World} {lo g : Nat} {f : Nat → Int} (h : RowU ty 4 w lo g f) : numRow w g = valU f 4 := valU_congr fun i hi => by rw [h.cell i hi]
theorem anyT_two {P : Program} {ops : Array Oper} {Q : Exit → Act → World → Prop} {T S : World → Prop} {m : Nat} {i j : Nat} {o o' : Oper} {fuel : Nat} {listed : Array Bool} {a : Act} {w : World} (hr : Region.ready .any ops listed = [i, j]) (ho : ops[i]? = some o) (ho' : ops[j]? = some o')
    (h : ∀ K' : Act → World → Prop, Shut (∀ a w, T w → ((listed.setIfInBounds i true).getD m true = false → S w) → AnyT P ops Q T S m fuel (listed.setIfInBounds i true) a w → K' a w) → if Region.wanted o (yielded ops a.tmps) = true then Oper.wp P o a w K' Q else K' (a.put o.dst undef) w)
    (h' : ∀ K' : Act → World → Prop, Shut (∀ a w, T w → ((listed.setIfInBounds j true).getD m true = false → S w) → AnyT P ops Q T S m fuel (listed.setIfInBounds j true) a w → K' a w) → if Region.wanted o' (yielded ops a.tmps) = true then Oper.wp P o' a w K' Q else K' (a.put o'.dst undef) w) :
    AnyT P ops Q T S m (fuel + 1) listed a w := by
  refine ⟨fun e => absurd (hr.symm.trans e) (by simp), fun q hq => ?_⟩
  rw [hr, List.mem_cons, List.mem_singleton] at hq
  rcases hq with rfl | rfl
  · exact wpOp_step ho (fun K' hK => h K' (fun a w h0 h1 h2 => hK a w ⟨h0, h1, h2⟩))
  · exact wpOp_step ho' (fun K' hK => h' K' (fun a w h0 h1 h2 => hK a w ⟨h0, h1, h2⟩))
structure SumI (w : World) (lo Gn Gm Gr Go : Nat) (fn fm fr : Nat → Int) (c : Int) (wr : World) : Prop where
  n : RowU 112 4 wr lo Gn fn
  m : RowU 112 4 wr lo Gm fm
  r : RowU 112 4 wr lo Gr fr
  o : RowU 110 1 wr lo Go (fun _ => c)
  b : Below lo w wr
structure Apart4 (Gn Gm Gr Go : Nat) : Prop where
  nm : Gm ≠ Gn
  nr : Gr ≠ Gn
  no : Go ≠ Gn
  mo : Gm ≠ Go
  ro : Gr ≠ Go
  on : Gn ≠ Go
section
variable {w wr : World} {lo Gn Gm Gr Go : Nat} {fn fm fr : Nat → Int} {c : Int}
theorem SumI.drew (h : SumI w lo Gn Gm Gr Go fn fm fr c wr) : SumI w lo Gn Gm Gr Go fn fm fr c wr.drew := ⟨h.n.drew, h.m.drew, h.r.drew, h.o.drew, h.b.drew⟩
theorem SumI.tell (h : SumI w lo Gn Gm Gr Go fn fm fr c wr) (d : Apart4 Gn Gm Gr Go) (o : Int) : SumI w lo Gn Gm Gr Go fn fm fr o (wr.setCell ⟨Go, 0, none⟩ (.int .u64 o)) := by
  have st := h.o.one o
  exact ⟨h.n.kept st.2 d.on, h.m.kept st.2 d.mo, h.r.kept st.2 d.ro, st.1, h.b.grown st.2 (Nat.le_trans h.o.lt.1 (Nat.le_of_lt h.o.lt.2)) (fun k hk => by cases hk; exact h.o.lt.1)⟩
theorem SumI.store (h : SumI w lo Gn Gm Gr Go fn fm fr c wr) (d : Apart4 Gn Gm Gr Go) (k : Nat) (v : Int) : SumI w lo Gn Gm Gr Go (fun i => if i = k then v else fn i) fm fr c (wr.setCell ⟨Gn, k, none⟩ (.int .u64 v)) := by
  have st := h.n.set k v
  exact ⟨st.1, h.m.kept st.2 d.nm, h.r.kept st.2 d.nr, h.o.kept st.2 d.no, h.b.grown st.2 (Nat.le_trans h.o.lt.1 (Nat.le_of_lt h.o.lt.2)) (fun k hk => by cases hk; exact h.n.lt.1)⟩
theorem SumI.congr {f' : Nat → Int} (h : SumI w lo Gn Gm Gr Go fn fm fr c wr) (he : ∀ i, i < 4 → fn i = f' i) : SumI w lo Gn Gm Gr Go f' fm fr c wr := ⟨h.n.congr he, h.m, h.r, h.o, h.b⟩
end
theorem wpList_build_run {P : Program} {ops : Array Oper} {rest : List Oper} {o : Oper} {a : Act} {w : World} {Q : Exit → Act → World → Prop} (hgd : o.guard = none) (t : TypeId) (parts : Array (Nat × Operand)) (ho : o.op = .build t parts)
    (vs : Array (Nat × Value)) (hvs : (parts.map fun (i, x) => (i, a.eval x)) = vs) {v : Value} (hr : (Instr.build t vs).run P w = .ok v w) (h : wpList P ops Q rest (a.put o.dst v) w) : wpList P ops Q (o :: rest) a w :=
  wpList_plain hgd fun _ hK => by
    unfold Oper.wp execOp
    subst hvs
    simp only [ho, Sem.run_bind, Sem.run_pure, Result.andThen_ok, hr]
    exact hK _ _ h
set_option maxHeartbeats 2000000 in
theorem fieldP_any (w : World) : Calls Tryz.prog 176 #[] w fun e w' => e = .returned (uP fldP) ∧ Below w.heap.size w w' := by
  have hz := (zero_of_info infoU4).1
  have hbd : ∀ w, (Instr.build 112 #[(0, .int .u64 18446744073709551597), (1, .int .u64 18446744073709551615), (2, .int .u64 18446744073709551615), (3, .int .u64 9223372036854775807)]).run Tryz.prog w = .ok (.agg (uV (numU fldP) 4).toArray) w := fun w => run_build w 112 _ _ (by kernel_rfl)
  have m0 := RowU.made w 112 4 w.heap.size (fun _ => 0) (by decide) (Nat.le_refl _)
  have ba : Below w.heap.size w (w.alloc (.cells (uV (fun _ => 0) 4).toArray 112)) := (Below.refl _ _).alloc (Nat.le_refl _) _
  obtain ⟨Z, hZ⟩ : ∃ Z, Z = (uV (fun _ => 0) 4).toArray := ⟨_, rfl⟩
  rw [← hZ] at hz m0 ba
  unfold uP
  clear hZ
  have hp := m0.put (f' := numU fldP)
  have hth2 := m0.there2 (f' := numU fldP)
  have hbel := Below.grown ba hp.2 (Below.size ba) (fun k hk => by cases hk; exact Nat.le_refl _)
  have hld := run_loadVar_mid (P := Tryz.prog) _ w.heap.size 0 112 _ _ hp.1.range Tryz.underlying112 rfl sizeU
  have hone := uV_one (numU fldP) 4
  have hsz2 := sizeU2 (f := numU fldP)
  obtain ⟨Cs, hCs⟩ : ∃ Cs, Cs = uV (numU fldP) 4 := ⟨_, rfl⟩
  rw [← hCs] at hsz2 hth2 hbel hld hone hbd
  replace hCs : Hid (Cs = uV (numU fldP) 4) := hCs
  clear hp
  go_enter Tryz.func176, Tryz.ntmps176
  go_wp2_with (first | (refine wpList_build_run rfl 112 #[(0, .const (.int .u64 18446744073709551597)), (1, .const (.int .u64 18446744073709551615)), (2, .const (.int .u64 18446744073709551615)), (3, .const (.int .u64 9223372036854775807))] rfl #[(0, .int .u64 18446744073709551597), (1, .int .u64 18446744073709551615), (2, .int .u64 18446744073709551615), (3, .int .u64 9223372036854775807)] (by simp [Act.eval]) (hbd _) ?_) | (refine wpList_store_mid rfl 112 _ _ rfl w.heap.size 0 Cs.toArray rfl rfl hth2 hsz2 (all_oneCell_toArray hone) ?_))
  (try simp only [Exit.inBlock, Exit.then])
  refine bodyPost_ret (v := .agg Cs.toArray) ?_ rfl ⟨by rw [hCs.out], hbel⟩
  simp [results, asAddr, Act.put, hld]
set_option maxHeartbeats 8000000 in
theorem less_any (x y : Int) (w : World) (hx0 : 0 ≤ x) (hx : x < bU ^ 4) (hy0 : 0 ≤ y) (hy : y < bU ^ 4) :
    Calls Tryz.prog 175 #[uP x, uP y] w fun e w' => e = .returned (.tuple #[uP ((x - y) % bU ^ 4), .bool (decide (y ≤ x))]) ∧ Below w.heap.size w w' := by
  have HC : Hid (∀ k, 0 ≤ carU (lessT x y) 1 k ∧ carU (lessT x y) 1 k < bU) := fun k => carU_le (lessT_le x y) (by decide) k
  have HD : Hid (∀ k, k < 4 → digU (lessT x y) 1 k = numU ((x - y) % bU ^ 4) k) := fun k hk => dig_less hx0 hx hy0 hy hk
  have HE : Hid (carU (lessT x y) 1 4 = if y ≤ x then 1 else 0) := car_less hx0 hx hy0 hy
  clear hx0 hx hy0 hy
  have hz := (zero_of_info infoU4).1
  unfold uP
  obtain ⟨V, hV⟩ : ∃ V, V = numU ((x - y) % bU ^ 4) := ⟨_, rfl⟩
  rw [← hV] at HD ⊢
  obtain ⟨b, hb⟩ : ∃ b, b = decide (y ≤ x) := ⟨_, rfl⟩
  rw [← hb]
  clear hV
  replace hb : Hid (b = decide (y ≤ x)) := hb
  obtain ⟨A, hA⟩ : ∃ A, A = (uV (numU x) 4).toArray := ⟨_, rfl⟩
  obtain ⟨B, hB⟩ : ∃ B, B = (uV (numU y) 4).toArray := ⟨_, rfl⟩
  obtain ⟨Z, hZ⟩ : ∃ Z, Z = (uV (fun _ => 0) 4).toArray := ⟨_, rfl⟩
  obtain ⟨m0, m1, m2, bel, sz⟩ := rows3 w (numU x) (numU y) (fun _ => 0) hA hB hZ
  rw [← hA, ← hB]
  rw [← hZ] at hz
  clear hA hB hZ
  go_enter Tryz.func175, Tryz.ntmps175
  go_wp2_with (fail)
  obtain ⟨G1, hG1⟩ : ∃ G1, G1 = w.heap.size + 1 := ⟨_, rfl⟩
  obtain ⟨G2, hG2⟩ : ∃ G2, G2 = G1 + 1 := ⟨_, rfl⟩
  rw [← hG1] at m1 m2 sz ⊢
  rw [← hG2] at m2 sz ⊢
  generalize ((w.alloc (.cells A 112)).alloc (.cells B 112)).alloc (.cells Z 112) = wb at m0 m1 m2 bel sz ⊢
  refine (sums_any 1 _).mono ?_
  rintro e w1 ⟨rfl, rfl⟩
  have mo := overRow wb w.heap.size 1 (by omega)
  obtain ⟨GO, hGO⟩ : ∃ GO, GO = wb.heap.size := ⟨_, rfl⟩
  rw [← hGO] at mo ⊢
  generalize wb.alloc (.cells #[.int .u64 1] 110) = wc at mo ⊢
  have bo : Below wb.heap.size wb wc := by rw [← hGO]; exact mo.2
  have DS : Apart4 w.heap.size G1 G2 GO := ⟨by omega, by omega, by omega, by omega, by omega, by omega⟩
  have hI0 : SumI w w.heap.size w.heap.size G1 G2 GO (numU x) (numU y) (fun _ => 0) 1 wc := ⟨m0.below bo, m1.below bo, m2.below bo, mo.1, below_on bel bo⟩
  have hloR : w.heap.size ≤ G2 := by omega
  clear m0 m1 m2 mo bo bel sz hG1 hG2 hGO hz
  unfold tellV
  go_wp2_with (fail)
  go_loopw [9] (fun i wr => ∃ k : Nat, k ≤ 4 ∧ i = .int .i64 k ∧ SumI w w.heap.size w.heap.size G1 G2 GO (mixU (digU (lessT x y) 1) (numU x) k) (numU y) (fun _ => 0) (carU (lessT x y) 1 k) wr)
    (fun i _ => 4 - (intOf i).toNat)
  case atStart => exact ⟨0, by omega, rfl, hI0.congr fun i _ => (mixU_zero _ _ i).symm⟩
  case round =>
    clear hI0
    obtain ⟨k, hk, rfl, hI⟩ := hrel
    by_cases hlt : k < 4
    · have hlt' : (k : Int) < 4 := by omega
      have hD := hI.drew
      obtain ⟨wX, hwX⟩ : ∃ wX, wX = wr.drew := ⟨_, rfl⟩
      rw [← hwX] at hD
      have cn := hD.n.cell k hlt
      rw [mixU_at] at cn
      have cm := hD.m.cell k hlt
      have co := hD.o.cell 0 (by decide)
      have fo := hD.o.frozen 0
      have fn0 := hD.n.frozen k
      have la := numU_range x k
      have lb := numU_range y k
      have lc := HC.out k
      have h2 := (hD.tell DS (carU (lessT x y) 1 (k + 1))).store DS k (digU (lessT x y) 1 k)
      replace h2 := h2.congr fun i _ => mixU_step (digU (lessT x y) 1) (numU x) k i
      have h1 := hD.tell DS (carU (lessT x y) 1 (k + 1))
      have cn1 := h1.n.cell k hlt
      rw [mixU_at] at cn1
      have cm1 := h1.m.cell k hlt
      have fn1 := h1.n.frozen k
      have cm2 := h2.m.cell k hlt
      have EQ : Hid (lessT x y k = numU x k + (18446744073709551615 - numU y k) * 1) := by show numU x k + (bU - 1 - numU y k) = _; (try unfold bU); omega
      have CT := fun h h' => tell_any GO (numU x k) (18446744073709551615 - (numU y k)) 1 (carU (lessT x y) 1 k) (digU (lessT x y) 1 k) (carU (lessT x y) 1 (k + 1)) wX la (by unfold bU at lb ⊢; omega) (by decide) lc (by rw [← EQ.out]; rfl) (by rw [← EQ.out]; rfl) h h'
      have CT' := CT co fo
      clear CT EQ
      have ld := digU_range (lessT x y) 1 k
      obtain ⟨o, ho⟩ : ∃ o, o = carU (lessT x y) 1 (k + 1) := ⟨_, rfl⟩
      rw [← ho] at CT' h1 h2 cn1 cm1 cm2 fn1
      replace ho : Hid (o = carU (lessT x y) 1 (k + 1)) := ho
      generalize digU (lessT x y) 1 k = r at CT' h2 cm2 ld
      generalize numU x k = a at cn cn1 CT' la
      generalize numU y k = b at cm cm1 cm2 CT' lb
      generalize carU (lessT x y) 1 k = cc at co lc
      unfold bU at la lb lc ld
      have xb := xor_all b lb.1 lb.2
      clear co fo hI h1 hD
      replace hwX : Hid (wX = wr.drew) := hwX
      go_wp2_with (fail)
      refine wp_region_noPanic ?_
      refine wp_region_T 11 (fun X => X.cell? ⟨G1, k, none⟩ = some (.int .u64 b)) (fun X => X.cell? ⟨w.heap.size, k, none⟩ = some (.int .u64 a)) (by kernel_rfl) ?_
      rw [← hwX.out]
      clear hwX
      refine anyT_takeT (i := 0) (v := .int .i64 (k : Int)) rfl (by kernel_rfl) (by kernel_rfl) (by kernel_rfl) (by kernel_rfl) (fun _ _ _ h => h) (Or.inl ⟨by rfl, fun X hSw => by ((try dsimp only at hSw); go_simp)⟩) cm (fun _ => cn) ?_
      simp only [Act.put, List.getElem_toArray, List.getElem_cons_zero, List.setIfInBounds_toArray, List.set_cons_zero, List.set_cons_succ]
      refine anyT_takeT (i := 1) (v := tellV GO) rfl (by kernel_rfl) (by kernel_rfl) (by kernel_rfl) (by kernel_rfl) (fun _ _ _ h => h) (Or.inl ⟨by rfl, fun X hSw => by ((try dsimp only at hSw); unfold tellV; go_simp)⟩) cm (fun _ => cn) ?_
      simp only [Act.put, List.getElem_toArray, List.getElem_cons_zero, List.getElem_cons_succ, List.setIfInBounds_toArray, List.set_cons_zero, List.set_cons_succ]
      refine anyT_takeT (i := 2) (v := .int .i64 (k : Int)) rfl (by kernel_rfl) (by kernel_rfl) (by kernel_rfl) (by kernel_rfl) (fun _ _ _ h => h) (Or.inl ⟨by rfl, fun X hSw => by ((try dsimp only at hSw); go_simp)⟩) cm (fun _ => cn) ?_
      simp only [Act.put, List.getElem_toArray, List.getElem_cons_zero, List.getElem_cons_succ, List.setIfInBounds_toArray, List.set_cons_zero, List.set_cons_succ]
      refine anyT_takeT (i := 3) (v := .pointer (some ⟨w.heap.size, k, none⟩)) rfl (by kernel_rfl) (by kernel_rfl) (by kernel_rfl) (by kernel_rfl) (fun _ _ _ h => h) (Or.inl ⟨by rfl, fun X hSw => by ((try dsimp only at hSw); go_simp)⟩) cm (fun _ => cn) ?_
      simp only [Act.put, List.getElem_toArray, List.getElem_cons_zero, List.getElem_cons_succ, List.setIfInBounds_toArray, List.set_cons_zero, List.set_cons_succ]
      refine anyT_takeS (i := 4) (v := .int .u64 a) rfl rfl (by kernel_rfl) (by kernel_rfl) (by kernel_rfl) (by kernel_rfl) (by kernel_rfl) (fun _ _ _ h => h) (Or.inl ⟨by rfl, fun X hSw => by (obtain ⟨q0, q1⟩ := hSw; go_simp)⟩) cm cn ?_
      simp only [Act.put, List.getElem_toArray, List.getElem_cons_zero, List.getElem_cons_succ, List.setIfInBounds_toArray, List.set_cons_zero, List.set_cons_succ]
      refine anyT_takeT (i := 5) (v := .int .i64 (k : Int)) rfl (by kernel_rfl) (by kernel_rfl) (by kernel_rfl) (by kernel_rfl) (fun _ _ _ h => h) (Or.inl ⟨by rfl, fun X hSw => by ((try dsimp only at hSw); go_simp)⟩) cm (fun _ => cn) ?_
      simp only [Act.put, List.getElem_toArray, List.getElem_cons_zero, List.getElem_cons_succ, List.setIfInBounds_toArray, List.set_cons_zero, List.set_cons_succ]
      refine anyT_takeT (i := 6) (v := .pointer (some ⟨G1, k, none⟩)) rfl (by kernel_rfl) (by kernel_rfl) (by kernel_rfl) (by kernel_rfl) (fun _ _ _ h => h) (Or.inl ⟨by rfl, fun X hSw => by ((try dsimp only at hSw); go_simp)⟩) cm (fun _ => cn) ?_
      simp only [Act.put, List.getElem_toArray, List.getElem_cons_zero, List.getElem_cons_succ, List.setIfInBounds_toArray, List.set_cons_zero, List.set_cons_succ]
      refine anyT_takeT (i := 7) (v := .int .u64 b) rfl (by kernel_rfl) (by kernel_rfl) (by kernel_rfl) (by kernel_rfl) (fun _ _ _ h => h) (Or.inl ⟨by rfl, fun X hSw => by ((try dsimp only at hSw); go_simp)⟩) cm (fun _ => cn) ?_
      simp only [Act.put, List.getElem_toArray, List.getElem_cons_zero, List.getElem_cons_succ, List.setIfInBounds_toArray, List.set_cons_zero, List.set_cons_succ]
      refine anyT_takeT (i := 8) (v := .int .u64 (18446744073709551615 - b)) rfl (by kernel_rfl) (by kernel_rfl) (by kernel_rfl) (by kernel_rfl) (fun _ _ _ h => h) (Or.inl ⟨by rfl, fun X hSw => by ((try dsimp only at hSw); go_simp; (try exact xb))⟩) cm (fun _ => cn) ?_
      simp only [Act.put, List.getElem_toArray, List.getElem_cons_zero, List.getElem_cons_succ, List.setIfInBounds_toArray, List.set_cons_zero, List.set_cons_succ]
      refine anyT_one (i := 9) (by kernel_rfl) rfl (fun K hK => ?_)
      unfold tellV
      go_simp
      refine CT'.mono ?_
      rintro e w9 ⟨rfl, rfl⟩
      go_wp2_with (fail)
      refine hK.out _ _ cm1 (fun _ => cn1) ?_
      clear hK K
      refine anyT_takeT (i := 10) (v := .pointer (some ⟨w.heap.size, k, none⟩)) rfl (by kernel_rfl) (by kernel_rfl) (by kernel_rfl) (by kernel_rfl) (fun _ _ _ h => h) (Or.inl ⟨by rfl, fun X hSw => by ((try dsimp only at hSw); go_simp)⟩) cm1 (fun _ => cn1) ?_
      simp only [Act.put, List.getElem_toArray, List.getElem_cons_zero, List.getElem_cons_succ, List.setIfInBounds_toArray, List.set_cons_zero, List.set_cons_succ]
      refine anyT_one (i := 11) (by kernel_rfl) rfl (fun K hK => ?_)
      go_simp
      refine hK.out _ _ cm2 (fun h => by cases h) ?_
      clear hK K
      refine anyT_done (by kernel_rfl) ?_ _
      refine NoPanic.normal ?_
      clear cm cn cm1 cn1 fn0 fn1 cm2 CT'
      go_wp2_with (fail)
      go_roundw
      case rel => exact ⟨k + 1, by omega, by go_num, by rw [← ho.out]; exact h2⟩
      case measure => simp [intOf]; omega
    · obtain rfl : k = 4 := by omega
      have hno : ¬ ((4 : Nat) : Int) < 4 := by omega
      replace hI := hI.congr (f' := V) fun i hi => by rw [mixU_end _ _ hi, HD.out i hi]
      have lc := HC.out 4
      rw [HE.out] at hI lc
      obtain ⟨c4, hc4⟩ : ∃ c4 : Int, c4 = if y ≤ x then 1 else 0 := ⟨_, rfl⟩
      rw [← hc4] at hI lc
      have hq : (c4 == 1) = b := by rw [hc4, hb.out]; split <;> simp_all
      clear HC HD HE hc4 hb
      have h0 := hI.drew
      obtain ⟨wX, hwX⟩ : ∃ wX, wX = wr.drew := ⟨_, rfl⟩
      rw [← hwX] at h0
      have CT := tell_any GO 0 0 0 c4 c4 0 wX (by decide) (by decide) (by decide) lc (by unfold bU at lc ⊢; omega) (by unfold bU at lc ⊢; omega) (h0.o.cell 0 (by decide)) (h0.o.frozen 0)
      have h1 := h0.tell DS 0
      clear hI
      replace hwX : Hid (wX = wr.drew) := hwX
      go_wp2_with (fail)
      refine wp_region_noPanic ?_
      refine wp_region_T 5 (fun X => X.rangeAt w.heap.size 0 (uV V 4)) (fun _ => True) (by kernel_rfl) ?_
      rw [← hwX.out]
      clear hwX
      refine anyT_takeT (i := 0) rfl (by kernel_rfl) (by kernel_rfl) (by kernel_rfl) (by kernel_rfl) (fun _ _ _ h => h) (yieldsIf_load_mid (by rfl) _ _ rfl _ _ rfl (uV V 4) _ (fun _ hw => hw) Tryz.underlying112 rfl sizeU) h0.n.range (fun _ => trivial) ?_
      simp only [Act.put, List.getElem_toArray, List.getElem_cons_zero, List.setIfInBounds_toArray, List.set_cons_zero, List.set_cons_succ]
      refine anyT_takeT (i := 1) (v := tellV GO) rfl (by kernel_rfl) (by kernel_rfl) (by kernel_rfl) (by kernel_rfl) (fun _ _ _ h => h) (Or.inl ⟨by rfl, fun X hSw => by ((try dsimp only at hSw); unfold tellV; go_simp)⟩) h0.n.range (fun _ => trivial) ?_
      simp only [Act.put, List.getElem_toArray, List.getElem_cons_zero, List.getElem_cons_succ, List.setIfInBounds_toArray, List.set_cons_zero, List.set_cons_succ]
      refine anyT_one (i := 2) (by kernel_rfl) rfl (fun K hK => ?_)
      unfold tellV
      go_simp
      refine CT.mono ?_
      rintro e w9 ⟨rfl, rfl⟩
      go_wp2_with (fail)
      refine hK.out _ _ h1.n.range (fun _ => trivial) ?_
      clear hK K CT h0
      refine anyT_takeT (i := 3) (v := .bool b) rfl (by kernel_rfl) (by kernel_rfl) (by kernel_rfl) (by kernel_rfl) (fun _ _ _ h => h) (Or.inl ⟨by rfl, fun X hSw => by ((try dsimp only at hSw); go_simp; (try simp [hq]))⟩) h1.n.range (fun _ => trivial) ?_
      simp only [Act.put, List.getElem_toArray, List.getElem_cons_zero, List.getElem_cons_succ, List.setIfInBounds_toArray, List.set_cons_zero, List.set_cons_succ]
      generalize (wX.setCell ⟨GO, 0, none⟩ (.int .u64 0)) = w5 at h1 ⊢
      have hp := h1.r.put (f' := V)
      have hth2 := h1.r.there2 (f' := V)
      have hbel := h1.b.grown hp.2 h1.b.size (fun k hk => by cases hk; exact hloR)
      have hld := run_loadVar_mid (P := Tryz.prog) _ G2 0 112 _ _ hp.1.range Tryz.underlying112 rfl sizeU
      have hnr := (h1.n.kept hp.2 DS.nr.symm).range
      have hone := uV_one V 4
      have hsz2 := sizeU2 (f := V)
      clear hp h1
      refine anyT_one (i := 4) (by kernel_rfl) rfl (fun K hK => ?_)
      refine wp_store_mid 112 _ _ rfl G2 0 (uV V 4).toArray rfl rfl hth2 hsz2 (all_oneCell_toArray hone) ?_
      refine hK.out _ _ hnr (fun _ => trivial) ?_
      clear hK K
      refine anyT_one (i := 5) (by kernel_rfl) rfl (fun K hK => ?_)
      go_simp
      refine hK.out _ _ hnr (fun _ => trivial) ?_
      clear hK K
      refine anyT_done (by kernel_rfl) ?_ _
      refine NoPanic.normal ?_
      go_wp2_with (fail)
      (try simp only [Exit.inBlock, Exit.then])
      refine bodyPost_ret (v := .tuple #[.agg (uV V 4).toArray, .bool b]) ?_ rfl ⟨rfl, hbel⟩
      simp [results, asAddr, hld]
end Go.Proofs.YtnpffnhiefgglaaGreatDoor
