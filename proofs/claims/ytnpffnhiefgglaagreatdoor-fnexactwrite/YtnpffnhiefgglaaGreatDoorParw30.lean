/-
  A part of the proof.
-/
import Derived.Test.YtnpffnhiefgglaaGreatDoorParw29
import Derived.Deep.MidRow
import Derived.Deep.WholeRow
import Derived.BigRegion
import Derived.BigQuiet
namespace Go.Proofs.YtnpffnhiefgglaaGreatDoor
set_option maxRecDepth 100000
def rowZ (a b : Nat → Int) (i j k : Nat) : Int := if i ≤ k ∧ k - i < j then a i * b (k - i) else 0
def rwsZ (a b : Nat → Int) : Nat → Nat → Int
  | 0, _ => 0
  | i + 1, k => rwsZ a b i k + rowZ a b i 16 k
theorem val_row (a b : Nat → Int) (i : Nat) (hi : i < 16) : valZ (rowZ a b i 16) 31 = a i * 65536 ^ i * valZ b 16 := by
  have e1 := valZ_split (rowZ a b i 16) i (31 - i)
  rw [show i + (31 - i) = 31 by omega] at e1
  have e2 := valZ_split (fun k => rowZ a b i 16 (i + k)) 16 (15 - i)
  rw [show 16 + (15 - i) = 31 - i by omega] at e2
  have z1 : valZ (rowZ a b i 16) i = 0 := by
    rw [valZ_congr (g := fun _ => 0) (fun k hk => by rw [rowZ, if_neg (by omega)]), valZ_zero]
  have z2 : valZ (fun k => rowZ a b i 16 (i + (16 + k))) (15 - i) = 0 := by
    rw [valZ_congr (g := fun _ => 0) (fun k hk => by rw [rowZ, if_neg (by omega)]), valZ_zero]
  have z3 : valZ (fun k => rowZ a b i 16 (i + k)) 16 = a i * valZ b 16 := by
    rw [← valZ_mul]
    refine valZ_congr fun k hk => ?_
    rw [rowZ, if_pos (by omega), show i + k - i = k by omega]
  rw [e1, z1, e2, z2, z3, Int.mul_zero, Int.add_zero, Int.zero_add, ← Int.mul_assoc, Int.mul_comm (65536 ^ i) (a i)]
theorem val_rws (a b : Nat → Int) : ∀ i, i ≤ 16 → valZ (rwsZ a b i) 31 = valZ a i * valZ b 16
  | 0, _ => by
    rw [show rwsZ a b 0 = fun _ => 0 from rfl, valZ_zero, valZ, Int.zero_mul]
  | i + 1, hi => by
    rw [show rwsZ a b (i + 1) = fun k => rwsZ a b i k + rowZ a b i 16 k from rfl, valZ_add, val_rws a b i (by omega), val_row a b i (by omega)]
    show _ = (valZ a i + a i * 65536 ^ i) * valZ b 16
    rw [Int.add_mul]
def fldZ (t : Nat → Int) (i : Nat) : Int := if i < 15 then t i + 38 * t (i + 16) else t i
theorem like_fld (t : Nat → Int) : likeP (valZ (fldZ t) 16) (valZ t 31) := by
  have e1 := valZ_split t 16 15
  have e2 : valZ (fldZ t) 16 = valZ t 16 + 38 * valZ (fun i => t (16 + i)) 15 := by
    have h1 : valZ (fldZ t) 16 = valZ (fldZ t) 15 + fldZ t 15 * 65536 ^ 15 := rfl
    have h2 : valZ t 16 = valZ t 15 + t 15 * 65536 ^ 15 := rfl
    have h3 : valZ (fldZ t) 15 = valZ (fun i => t i + 38 * t (16 + i)) 15 := valZ_congr fun i hi => by rw [fldZ, if_pos hi, Nat.add_comm]
    have h4 : fldZ t 15 = t 15 := by rw [fldZ, if_neg (by omega)]
    rw [h1, h2, h3, h4, valZ_add, valZ_mul]
    omega
  rw [e2, show valZ t 31 = _ from e1]
  exact (likeP.refl _).add (likeP_256.symm.mulR _)
def mulZ (a b : Nat → Int) : Nat → Int := cryZ (cryZ (fldZ (rwsZ a b 16)))
theorem like_mul (a b : Nat → Int) : likeP (valZ (mulZ a b) 16) (valZ a 16 * valZ b 16) := by
  have h := val_rws a b 16 (by omega)
  rw [← h]
  exact (like_cry _).trans ((like_cry _).trans (like_fld _))
def okZ (f : Nat → Int) : Prop := ∀ i, -262144 ≤ f i ∧ f i ≤ 262144
theorem prod_le {x y : Int} (hx : -262144 ≤ x ∧ x ≤ 262144) (hy : -262144 ≤ y ∧ y ≤ 262144) : -68719476736 ≤ x * y ∧ x * y ≤ 68719476736 := by
  have h1 : x.natAbs ≤ 262144 := by omega
  have h2 : y.natAbs ≤ 262144 := by omega
  have h3 : (x * y).natAbs ≤ 68719476736 := by
    rw [Int.natAbs_mul]
    exact Nat.mul_le_mul h1 h2
  omega
theorem rowZ_le {a b : Nat → Int} (ha : okZ a) (hb : okZ b) (i j k : Nat) : -68719476736 ≤ rowZ a b i j k ∧ rowZ a b i j k ≤ 68719476736 := by
  unfold rowZ
  split
  · exact prod_le (ha _) (hb _)
  · omega
theorem rwsZ_le {a b : Nat → Int} (ha : okZ a) (hb : okZ b) (k : Nat) : ∀ i : Nat, -(68719476736 * (i : Int)) ≤ rwsZ a b i k ∧ rwsZ a b i k ≤ 68719476736 * (i : Int)
  | 0 => by simp [rwsZ]
  | i + 1 => by
    have h1 := rwsZ_le ha hb k i
    have h2 := rowZ_le ha hb i 16 k
    rw [rwsZ]
    omega
theorem fldZ_le {a b : Nat → Int} (ha : okZ a) (hb : okZ b) (k : Nat) : -140737488355328 ≤ fldZ (rwsZ a b 16) k ∧ fldZ (rwsZ a b 16) k ≤ 140737488355328 := by
  have h1 := rwsZ_le ha hb k 16
  have h2 := rwsZ_le ha hb (k + 16) 16
  unfold fldZ
  split <;> omega
theorem mulZ_ok {a b : Nat → Int} (ha : okZ a) (hb : okZ b) : okZ (mulZ a b) := fun i => by
  have h := cry_twice (f := fldZ (rwsZ a b 16)) (fun i => (fldZ_le ha hb i).1) (fun i => (fldZ_le ha hb i).2)
  by_cases hi : i = 0
  · subst hi
    have h1 : mulZ a b 0 = cryZ (cryZ (fldZ (rwsZ a b 16))) 0 := rfl
    omega
  · have h1 := h.1 i hi
    have h2 : mulZ a b i = cryZ (cryZ (fldZ (rwsZ a b 16))) i := rfl
    omega
/-! ### a number to the power p less 2 -/
def invZ (a : Nat → Int) : Nat → Nat → Int
  | 0 => a
  | k + 1 => if k = 251 ∨ k = 249 then mulZ (invZ a k) (invZ a k) else mulZ (mulZ (invZ a k) (invZ a k)) a
def invE : Nat → Nat
  | 0 => 1
  | k + 1 => if k = 251 ∨ k = 249 then 2 * invE k else 2 * invE k + 1
theorem invZ_ok {a : Nat → Int} (ha : okZ a) : ∀ k, okZ (invZ a k)
  | 0 => ha
  | k + 1 => by
    have ih := invZ_ok ha k
    rw [invZ]
    split
    · exact mulZ_ok ih ih
    · exact mulZ_ok (mulZ_ok ih ih) ha
theorem like_inv (a : Nat → Int) : ∀ k, likeP (valZ (invZ a k) 16) (valZ a 16 ^ invE k)
  | 0 => by rw [invE, Int.pow_one]; exact likeP.refl _
  | k + 1 => by
    have ih := like_inv a k
    have hs := (like_mul (invZ a k) (invZ a k)).trans (ih.mul ih)
    rw [← Int.pow_add, ← Nat.two_mul] at hs
    rw [invZ, invE]
    split
    · exact hs
    · rw [Int.pow_succ]
      exact (like_mul _ _).trans (hs.mulR _)
theorem invE_last : (invE 254 : Int) = fldP - 2 := by decide +kernel
/-! ### the bytes -/
theorem part_of {t : Nat → Int} {n : Nat} (ht : ∀ i, i < n → 0 ≤ t i ∧ t i < 65536) {i : Nat} (hi : i < n) : valZ t n / 65536 ^ i % 65536 = t i := by
  have e1 := valZ_split t i (n - i)
  rw [show i + (n - i) = n by omega] at e1
  have h1 := valZ_range (f := t) (n := i) (fun j hj => ht j (by omega))
  have e2 := valZ_split (fun j => t (i + j)) 1 (n - i - 1)
  rw [show 1 + (n - i - 1) = n - i by omega] at e2
  have e3 : valZ (fun j => t (i + j)) 1 = t i := by simp [valZ]
  have hp := powZ_pos i
  rw [e1, Int.add_mul_ediv_left _ _ (by omega), Int.ediv_eq_zero_of_lt h1.1 h1.2, Int.zero_add, e2, e3, Int.pow_one, Int.add_mul_emod_self_left, Int.emod_eq_of_lt (ht i hi).1 (ht i hi).2]
def prtB (t : Nat → Int) (n : Nat) : List Int := (List.range n).flatMap fun i => [t i % 256, t i / 256 % 256]
def numB (z : Int) : List Int := (List.range 16).flatMap fun i => [z / 65536 ^ i % 65536 % 256, z / 65536 ^ i % 65536 / 256 % 256]
theorem prtB_step (t : Nat → Int) (n : Nat) : prtB t n ++ [t n % 256, t n / 256 % 256] = prtB t (n + 1) := by
  simp [prtB, List.range_succ]
theorem red_bytes {f : Nat → Int} (h1 : ∀ i, -140737488355328 ≤ f i) (h2 : ∀ i, f i ≤ 140737488355328) : prtB (redZ f) 16 = numB (valZ f 16 % fldP) := by
  have hr := red_range h1 h2
  rw [← val_red h1 h2]
  unfold prtB numB
  have key : ∀ l : List Nat, (∀ i ∈ l, i < 16) → l.flatMap (fun i => [redZ f i % 256, redZ f i / 256 % 256]) = l.flatMap (fun i => [valZ (redZ f) 16 / 65536 ^ i % 65536 % 256, valZ (redZ f) 16 / 65536 ^ i % 65536 / 256 % 256]) := by
    intro l hl
    induction l with
    | nil => rfl
    | cons a l ih =>
      rw [List.flatMap_cons, List.flatMap_cons, ih (fun i hi => hl i (List.mem_cons_of_mem _ hi)), part_of (fun i _ => hr i) (hl a (List.mem_cons_self ..))]
  exact key (List.range 16) (fun i hi => List.mem_range.1 hi)
end Go.Proofs.YtnpffnhiefgglaaGreatDoor
namespace Go.Proofs.YtnpffnhiefgglaaGreatDoor
open Go.RowKit
set_option maxRecDepth 100000
def zL (f : Nat → Int) (n : Nat) : List Int := (List.range n).map f
def zV (f : Nat → Int) (n : Nat) : List Value := (zL f n).map (Value.int .i64)
theorem zL_length (f : Nat → Int) (n : Nat) : (zL f n).length = n := by simp [zL]
theorem zV_length (f : Nat → Int) (n : Nat) : (zV f n).length = n := by simp [zV, zL]
theorem zV_get (f : Nat → Int) {n k : Nat} (h : k < n) : (zV f n)[k]? = some (.int .i64 (f k)) := by simp [zV, zL, h]
theorem zV_one (f : Nat → Int) (n : Nat) : ∀ v ∈ zV f n, v.oneCell' = true := by
  intro v hv
  simp only [zV, List.mem_map] at hv
  obtain ⟨x, _, rfl⟩ := hv
  rfl
theorem zV_set (f : Nat → Int) (n k : Nat) (v : Int) : (zV f n).set k (.int .i64 v) = zV (fun i => if i = k then v else f i) n := by
  apply List.ext_getElem?
  intro j
  by_cases hj : j < n
  · by_cases hk : k = j
    · subst hk
      rw [List.getElem?_set_self (by rw [zV_length]; exact hj), zV_get _ hj]
      simp
    · rw [List.getElem?_set_ne hk, zV_get _ hj, zV_get _ hj]
      simp [Ne.symm hk]
  · rw [List.getElem?_eq_none (by simp [zV_length]; omega), List.getElem?_eq_none (by simp [zV_length]; omega)]
theorem zV_congr {f g : Nat → Int} {n : Nat} (h : ∀ i, i < n → f i = g i) : zV f n = zV g n := by
  have e : zL f n = zL g n := List.map_congr_left fun i hi => h i (List.mem_range.1 hi)
  rw [zV, e, zV]
def RowZ (ty n : Nat) (w : World) (lo g : Nat) (f : Nat → Int) : Prop := w.ownsRow lo ty 1 (.slice (some ⟨g, 0, none⟩) n n) n (zV f n)
section
variable {ty n : Nat} {w w' : World} {lo g : Nat} {f : Nat → Int}
theorem RowZ.cell (h : RowZ ty n w lo g f) (i : Nat) (hi : i < n) : w.cell? ⟨g, i, none⟩ = some (.int .i64 (f i)) := by
  have h' : w.ownsRow lo ty 1 (.slice (some ⟨g, 0, none⟩) n n) n (zV f n) := h
  rw [h'.cellAt i (by omega), zV_get _ hi]
theorem RowZ.frozen (h : RowZ ty n w lo g f) (i : Nat) : w.frozen? ⟨g, i, none⟩ = false := World.ownsRow.frozenAt h i
theorem RowZ.lt (h : RowZ ty n w lo g f) : lo ≤ g ∧ g < w.heap.size := World.ownsRow.lt h g rfl
theorem RowZ.below (h : RowZ ty n w lo g f) (hb : Below w.heap.size w w') : RowZ ty n w' lo g f := owns_below h hb
theorem RowZ.kept {r : Nat} (h : RowZ ty n w lo g f) (hg : w.grownBy w' (some r)) (hne : g ≠ r) : RowZ ty n w' lo g f := World.ownsRow.kept h hg (.inr (by simp [Value.ownBlock]; exact fun e => hne e))
theorem RowZ.set (h : RowZ ty n w lo g f) (k : Nat) (v : Int) : RowZ ty n (w.setCell ⟨g, k, none⟩ (.int .i64 v)) lo g (fun i => if i = k then v else f i) ∧ w.grownBy (w.setCell ⟨g, k, none⟩ (.int .i64 v)) (some g) := by
  have st := World.ownsRow.stored h k (.int .i64 v)
  rw [zV_set] at st
  exact st
theorem RowZ.congr {f' : Nat → Int} (h : RowZ ty n w lo g f) (he : ∀ i, i < n → f i = f' i) : RowZ ty n w lo g f' := by
  unfold RowZ at *
  rw [← zV_congr he]
  exact h
theorem RowZ.made (w : World) (ty n lo : Nat) (f : Nat → Int) (hn : n ≤ 1000) (hlo : lo ≤ w.heap.size) : RowZ ty n (w.alloc (.cells (zV f n).toArray ty)) lo w.heap.size f := by
  refine ⟨by simp [zV_length], .inr ⟨w.heap.size, n, _, rfl, hlo, heap_alloc_new w _, Nat.le_refl _, by unfold maxLen; omega, by simp [zV_length], ?_⟩⟩
  rw [List.take_of_length_le (by simp [zV_length])]
theorem RowZ.range (h : RowZ ty n w lo g f) : w.rangeAt g 0 (zV f n) := by
  intro j v hv
  have hj : j < n := by have := (List.getElem?_eq_some_iff.1 hv).1; rwa [zV_length] at this
  rw [Nat.zero_add, World.ownsRow.cellAt h j (by omega), hv]
theorem RowZ.there (h : RowZ ty n w lo g f) : w.there g 0 n := by
  intro j hj
  rw [Nat.zero_add, h.cell j hj]
  exact ⟨rfl, h.frozen j⟩
theorem zPut {e c : Nat} (vs : List Value) : ∀ (o : Nat) (w : World) (xs : List Value), o + vs.length = n → xs.length = n → w.ownsRow lo e 1 (.slice (some ⟨g, 0, none⟩) n c) n xs →
    (w.setCells g o vs).ownsRow lo e 1 (.slice (some ⟨g, 0, none⟩) n c) n (xs.take o ++ vs) ∧ w.grownBy (w.setCells g o vs) (some g) := by
  induction vs with
  | nil =>
    intro o w xs h1 h2 h
    rw [List.append_nil, List.take_of_length_le (by simp at h1; omega)]
    exact ⟨h, World.grownBy.refl _ _⟩
  | cons v r ih =>
    intro o w xs h1 h2 h
    have k1 := h.stored o v
    have k2 := ih (o + 1) _ _ (by simp at h1; omega) (by simpa using h2) k1.1
    have e : (xs.set o v).take (o + 1) = xs.take o ++ [v] := by
      rw [List.take_succ_eq_append_getElem (by simp at h1 ⊢; omega), List.take_set_of_le (Nat.le_refl _)]
      simp
    rw [e, List.append_assoc] at k2
    exact ⟨k2.1, grown_trans k1.2 k2.2⟩
theorem RowZ.put {f' : Nat → Int} (h : RowZ ty n w lo g f) : RowZ ty n (w.setCells g 0 (zV f' n)) lo g f' ∧ w.grownBy (w.setCells g 0 (zV f' n)) (some g) := by
  have k := zPut (zV f' n) 0 w (zV f n) (by rw [zV_length]; omega) (zV_length f n) h
  refine ⟨?_, k.2⟩
  have k1 := k.1
  rw [List.take_zero, List.nil_append] at k1
  exact k1
end
theorem infoZ16 : (Tryz.prog.info? 125).map (fun i => (i.zero, i.size)) = some (some (.agg (zV (fun _ => 0) 16).toArray), 16) := by kernel_rfl
def cryK (f : Nat → Int) (k i : Nat) : Int := if i < k then (if i = 0 ∧ k = 16 then digZ f 0 + 38 * carZ f 16 else digZ f i) else if i = k then f k + carZ f k else f i
theorem cryK_end (f : Nat → Int) : zV (cryK f 16) 16 = zV (cryZ f) 16 := zV_congr fun i hi => by
  unfold cryK cryZ
  rw [if_pos hi]
  by_cases h : i = 0
  · subst h; simp
  · simp [h]
set_option maxHeartbeats 4000000 in
theorem l8Carry_any (f : Nat → Int) (w : World) (h1 : ∀ i, -140737488355328 ≤ f i) (h2 : ∀ i, f i ≤ 140737488355328) :
    Calls Tryz.prog 182 #[.agg (zV f 16).toArray] w fun e w' => e = .returned (.agg (zV (cryZ f) 16).toArray) ∧ Below w.heap.size w w' := by
  have hz := (zero_of_info infoZ16).1
  have hsz0 := (zero_of_info infoZ16).2
  have HC : Hid (∀ k, -2147516418 ≤ carZ f k ∧ carZ f k ≤ 2147516417) := fun k => by
    have := carZ_le (f := f) (M := 2147516417) (fun i => by have := h1 i; omega) (fun i => by have := h2 i; omega) (by omega) k
    omega
  have m0 := RowZ.made w 125 16 w.heap.size f (by decide) (Nat.le_refl _)
  obtain ⟨A, hA⟩ : ∃ A, A = (zV f 16).toArray := ⟨_, rfl⟩
  rw [← hA] at m0 ⊢
  have ba : Below w.heap.size w (w.alloc (.cells A 125)) := (Below.refl _ _).alloc (Nat.le_refl _) _
  have sa : (w.alloc (.cells A 125)).heap.size = w.heap.size + 1 := by simp
  have m1 := RowZ.made (w.alloc (.cells A 125)) 125 16 w.heap.size (fun _ => 0) (by decide) (by omega)
  obtain ⟨Z, hZ⟩ : ∃ Z, Z = (zV (fun _ => 0) 16).toArray := ⟨_, rfl⟩
  rw [← hZ] at hz m1
  clear hZ hA
  have bb : Below (w.alloc (.cells A 125)).heap.size (w.alloc (.cells A 125)) ((w.alloc (.cells A 125)).alloc (.cells Z 125)) := (Below.refl _ _).alloc (Nat.le_refl _) _
  have h20 := m0.below bb
  have bel := below_on ba bb
  rw [sa] at m1
  go_enter Tryz.func182, Tryz.ntmps182
  go_wp2_with (fail)
  obtain ⟨GR, hGR⟩ : ∃ GR, GR = w.heap.size + 1 := ⟨_, rfl⟩
  rw [← hGR] at m1 ⊢
  have hne : GR ≠ w.heap.size := by omega
  generalize (w.alloc (.cells A 125)).alloc (.cells Z 125) = wb at h20 m1 bel ⊢
  have hs0 : RowZ 125 16 wb w.heap.size w.heap.size (cryK f 0) := h20.congr fun i _ => by
    unfold cryK
    rw [if_neg (by omega)]
    split
    · rename_i h; subst h; simp [carZ]
    · rfl
  clear m0 ba sa bb h20 hGR hz
  go_loopw [3] (fun i wr => ∃ k : Nat, k ≤ 16 ∧ i = .int .i64 k ∧ RowZ 125 16 wr w.heap.size w.heap.size (cryK f k) ∧ wb.grownBy wr (some w.heap.size))
    (fun i _ => 16 - (intOf i).toNat)
  case atStart => exact ⟨0, by omega, rfl, hs0, World.grownBy.refl _ _⟩
  case round =>
    clear hs0
    obtain ⟨k, hk, rfl, hr, hgr⟩ := hrel
    by_cases hlt : k < 16
    · have hlt' : (k : Int) < 16 := by omega
      have c0 := hr.cell k hlt
      have e0 : cryK f k k = f k + carZ f k := by unfold cryK; rw [if_neg (by omega), if_pos rfl]
      rw [e0] at c0
      have f0 := hr.frozen k
      have hx : -140739635871747 ≤ f k + carZ f k ∧ f k + carZ f k ≤ 140739635871746 := by
        have := HC.out k
        have := h1 k
        have := h2 k
        omega
      have HQ : Hid (carZ f (k + 1) = (f k + carZ f k) / 65536) := rfl
      have HD : Hid (digZ f k = (f k + carZ f k) % 65536) := rfl
      have r1 := hr.set k (f k + carZ f k + 65536)
      have hq := HC.out (k + 1)
      rw [HQ.out] at hq
      obtain ⟨x, hxe⟩ : ∃ x, x = f k + carZ f k := ⟨_, rfl⟩
      rw [← hxe] at c0 hx r1 HQ HD hq
      obtain ⟨y, hy⟩ : ∃ y, y = x + 65536 := ⟨_, rfl⟩
      rw [← hy] at r1
      have c1 := r1.1.cell k hlt
      simp only [if_true] at c1
      have f1 := r1.1.frozen k
      obtain ⟨q, hqe⟩ : ∃ q, q = x / 65536 := ⟨_, rfl⟩
      rw [← hqe] at hq HQ
      have ey : x + 65536 = y := hy.symm
      obtain ⟨cc, hcc⟩ : ∃ cc, cc = q + 1 := ⟨_, rfl⟩
      have es : y / 65536 = cc := by omega
      have ec1 : cc - 1 = q := by omega
      obtain ⟨sh, hsh⟩ : ∃ sh, sh = cc * 65536 := ⟨_, rfl⟩
      have esh : cc * 65536 = sh := hsh.symm
      obtain ⟨dg, hdg⟩ : ∃ dg, dg = x % 65536 := ⟨_, rfl⟩
      rw [← hdg] at HD
      have ed : y - sh = dg := by omega
      have ly : -140739635871747 ≤ y ∧ y ≤ 140739635937282 := by omega
      have lc : -2147516417 ≤ cc ∧ cc ≤ 2147516418 := by omega
      have lsh : -140739635871747 ≤ sh ∧ sh ≤ 140739635970048 := by omega
      have wsh : IntKind.i64.wrap (cc * 65536) = sh := by rw [IntKind.wrap_i64]; omega
      by_cases h15 : k < 15
      · have h15' : (k : Int) < 15 := by omega
        obtain ⟨k1, hk1⟩ : ∃ k1 : Nat, k1 = k + 1 := ⟨_, rfl⟩
        have ek1 : (k : Int) + 1 = (k1 : Int) := by omega
        have lk1 : (k1 : Int) < 16 := by omega
        have cn := r1.1.cell k1 (by omega)
        have en : (if k1 = k then y else cryK f k k1) = f k1 := by
          rw [if_neg (by omega)]
          unfold cryK
          rw [if_neg (by omega), if_neg (by omega)]
        rw [en] at cn
        have fn := r1.1.frozen k1
        have r2 := r1.1.set k1 (f k1 + q)
        have c2 := r2.1.cell k hlt
        have e2 : (if k = k1 then f k1 + q else if k = k then y else cryK f k k) = y := by rw [if_neg (by omega), if_pos rfl]
        rw [e2] at c2
        have f2 := r2.1.frozen k
        have r3 := r2.1.set k dg
        have HF : RowZ 125 16 _ w.heap.size w.heap.size (cryK f (k + 1)) := r3.1.congr fun i hi => by
          unfold cryK
          by_cases a1 : i = k
          · subst a1
            rw [if_pos rfl, if_pos (by omega), if_neg (by omega), HD.out]
          · rw [if_neg a1]
            by_cases a2 : i = k1
            · subst a2
              rw [if_pos rfl, if_neg (by omega), if_pos (by omega), hk1, HQ.out]
            · rw [if_neg a2, if_neg a1]
              by_cases a3 : i < k
              · rw [if_pos a3, if_neg (by omega), if_pos (by omega), if_neg (by omega)]
              · rw [if_neg a3, if_neg (by omega), if_neg (by omega)]
                first | rfl | (rw [if_neg (by omega)])
        have hgr' := grown_trans hgr (grown_trans r1.2 (grown_trans r2.2 r3.2))
        have ln := h1 k1
        have ln2 := h2 k1
        generalize f k1 = a at cn fn r2 c2 f2 r3 HF hgr' ln ln2
        obtain ⟨a2, ha2⟩ : ∃ a2, a2 = a + cc := ⟨_, rfl⟩
        have ea2 : a + cc = a2 := ha2.symm
        obtain ⟨a3, ha3⟩ : ∃ a3, a3 = a + q := ⟨_, rfl⟩
        have ea3 : a2 - 1 = a3 := by omega
        rw [← ha3] at c2 f2 HF hgr'
        have la2 : -140739635871747 ≤ a2 ∧ a2 ≤ 140739635937282 := by omega
        clear r1 r2 r3 hr hgr hy hxe hcc hqe hsh hdg ha2 ha3 hk1 HQ HD hq
        go_wp2_with (fail)
        go_roundw
        case rel => exact ⟨k + 1, by omega, by go_num, HF, hgr'⟩
        case measure => simp [intOf]; omega
      · obtain rfl : k = 15 := by omega
        have h15' : ¬ ((15 : Nat) : Int) < 15 := by omega
        have cn := r1.1.cell 0 (by omega)
        have en : (if 0 = 15 then y else cryK f 15 0) = digZ f 0 := by
          rw [if_neg (by omega)]
          unfold cryK
          rw [if_pos (by omega), if_neg (by omega)]
        rw [en] at cn
        have fn := r1.1.frozen 0
        have r2 := r1.1.set 0 (digZ f 0 + 38 * q)
        have c2 := r2.1.cell 15 hlt
        have e2 : (if 15 = 0 then digZ f 0 + 38 * q else if 15 = 15 then y else cryK f 15 15) = y := by rw [if_neg (by omega), if_pos rfl]
        rw [e2] at c2
        have f2 := r2.1.frozen 15
        have r3 := r2.1.set 15 dg
        have HF : RowZ 125 16 _ w.heap.size w.heap.size (cryK f (15 + 1)) := r3.1.congr fun i hi => by
          unfold cryK
          by_cases a1 : i = 15
          · subst a1
            rw [if_pos rfl, if_pos (by omega), if_neg (by omega), HD.out]
          · rw [if_neg a1]
            by_cases a2 : i = 0
            · subst a2
              rw [if_pos rfl, if_pos (by omega), if_pos (by omega), HQ.out]
            · rw [if_neg a2, if_neg a1, if_pos (by omega), if_neg (by omega), if_pos (by omega), if_neg (by omega)]
        have hgr' := grown_trans hgr (grown_trans r1.2 (grown_trans r2.2 r3.2))
        have ln := digZ_range f 0
        generalize digZ f 0 = a at cn fn r2 c2 f2 r3 HF hgr' ln
        obtain ⟨q3, hq3⟩ : ∃ q3, q3 = 38 * q := ⟨_, rfl⟩
        have eq3 : 38 * q = q3 := hq3.symm
        obtain ⟨a3, ha3⟩ : ∃ a3, a3 = a + 38 * q := ⟨_, rfl⟩
        have ea3 : a + q3 = a3 := by omega
        rw [← ha3] at c2 f2 HF hgr'
        have lq3 : -81605623884 ≤ q3 ∧ q3 ≤ 81605623846 := by omega
        clear r1 r2 r3 hr hgr hy hxe hcc hqe hsh hdg ha3 hq3 HQ HD hq
        go_wp2_with (fail)
        go_roundw
        case rel => exact ⟨15 + 1, by omega, by go_num, HF, hgr'⟩
        case measure => simp [intOf]
    · obtain rfl : k = 16 := by omega
      have hnl : ¬ ((16 : Nat) : Int) < 16 := by omega
      have hr16 : RowZ 125 16 wr w.heap.size w.heap.size (cryZ f) := by
        unfold RowZ at *
        rw [← cryK_end]
        exact hr
      have hra := hr16.range
      have hk2 := m1.kept hgr hne
      have hsC : (zV (cryZ f) 16).toArray.size = 16 := by simp [zV_length]
      have hsz : (Tryz.prog.info? 125).map (·.size) = some (zV (cryZ f) 16).length := by rw [zV_length]; exact hsz0
      have hsz2 : (Tryz.prog.info? 125).map (·.size) = some (zV (cryZ f) 16).toArray.size := by rw [hsC]; exact hsz0
      have hth2 : wr.there GR 0 (zV (cryZ f) 16).toArray.size := by rw [hsC]; exact hk2.there
      have hp := hk2.put (f' := cryZ f)
      have hbel : Below w.heap.size w (wr.setCells GR 0 (zV (cryZ f) 16)) := (bel.grown hgr bel.size (fun k hk => by cases hk; exact Nat.le_refl _)).grown hp.2 (Nat.le_trans bel.size hgr.size) (fun k hk => by cases hk; exact m1.lt.1)
      have hld := run_loadVar_mid (P := Tryz.prog) _ GR 0 125 _ _ hp.1.range Tryz.underlying125 rfl hsz
      have hone := zV_one (cryZ f) 16
      obtain ⟨Cs, hCs⟩ : ∃ Cs, Cs = zV (cryZ f) 16 := ⟨_, rfl⟩
      rw [← hCs] at hra hsz hsz2 hth2 hbel hld hone
      replace hCs : Hid (Cs = zV (cryZ f) 16) := hCs
      clear hp hk2 hr hr16 hgr m1 bel HC hsC
      go_wp2_with (first | (refine wpList_load_mid rfl 125 _ rfl w.heap.size 0 rfl Cs _ hra Tryz.underlying125 rfl hsz ?_) | (refine wpList_store_mid rfl 125 _ _ rfl GR 0 Cs.toArray rfl rfl hth2 hsz2 (all_oneCell_toArray hone) ?_))
      (try simp only [Exit.inBlock, Exit.then])
      refine bodyPost_ret (v := .agg Cs.toArray) ?_ rfl ⟨by rw [hCs.out], hbel⟩
      simp [results, asAddr, hld]
def addZK (f g : Nat → Int) (k i : Nat) : Int := if i < k then f i + g i else f i
set_option maxHeartbeats 4000000 in
theorem l8Add_any (f g : Nat → Int) (w : World) (h1 : ∀ i, -1073741824 ≤ f i ∧ f i ≤ 1073741824) (h2 : ∀ i, -1073741824 ≤ g i ∧ g i ≤ 1073741824) :
    Calls Tryz.prog 134 #[.agg (zV f 16).toArray, .agg (zV g 16).toArray] w fun e w' => e = .returned (.agg (zV (fun i => f i + g i) 16).toArray) ∧ Below w.heap.size w w' := by
  have hz := (zero_of_info infoZ16).1
  have hsz0 := (zero_of_info infoZ16).2
  have m0 := RowZ.made w 125 16 w.heap.size f (by decide) (Nat.le_refl _)
  obtain ⟨A, hA⟩ : ∃ A, A = (zV f 16).toArray := ⟨_, rfl⟩
  rw [← hA] at m0 ⊢
  have ba : Below w.heap.size w (w.alloc (.cells A 125)) := (Below.refl _ _).alloc (Nat.le_refl _) _
  have sa : (w.alloc (.cells A 125)).heap.size = w.heap.size + 1 := by simp
  have m1 := RowZ.made (w.alloc (.cells A 125)) 125 16 w.heap.size g (by decide) (by omega)
  obtain ⟨B, hB⟩ : ∃ B, B = (zV g 16).toArray := ⟨_, rfl⟩
  rw [← hB] at m1 ⊢
  have bb : Below (w.alloc (.cells A 125)).heap.size (w.alloc (.cells A 125)) ((w.alloc (.cells A 125)).alloc (.cells B 125)) := (Below.refl _ _).alloc (Nat.le_refl _) _
  have sb : ((w.alloc (.cells A 125)).alloc (.cells B 125)).heap.size = w.heap.size + 1 + 1 := by simp
  have m2 := RowZ.made ((w.alloc (.cells A 125)).alloc (.cells B 125)) 125 16 w.heap.size (fun _ => 0) (by decide) (by omega)
  obtain ⟨Z, hZ⟩ : ∃ Z, Z = (zV (fun _ => 0) 16).toArray := ⟨_, rfl⟩
  rw [← hZ] at hz m2
  clear hZ hA hB
  have bc : Below ((w.alloc (.cells A 125)).alloc (.cells B 125)).heap.size ((w.alloc (.cells A 125)).alloc (.cells B 125)) (((w.alloc (.cells A 125)).alloc (.cells B 125)).alloc (.cells Z 125)) := (Below.refl _ _).alloc (Nat.le_refl _) _
  have q0 := (m0.below bb).below bc
  have q1 := m1.below bc
  have bel := below_on (below_on ba bb) bc
  rw [sa] at q1
  rw [sb] at m2
  go_enter Tryz.func134, Tryz.ntmps134
  go_wp2_with (fail)
  obtain ⟨GB, hGB⟩ : ∃ GB, GB = w.heap.size + 1 := ⟨_, rfl⟩
  rw [← hGB] at q1 m2 ⊢
  obtain ⟨GR, hGR⟩ : ∃ GR, GR = GB + 1 := ⟨_, rfl⟩
  rw [← hGR] at m2 ⊢
  have hne1 : GB ≠ w.heap.size := by omega
  have hne2 : GR ≠ w.heap.size := by omega
  generalize ((w.alloc (.cells A 125)).alloc (.cells B 125)).alloc (.cells Z 125) = wb at q0 q1 m2 bel ⊢
  have hs0 : RowZ 125 16 wb w.heap.size w.heap.size (addZK f g 0) := q0.congr fun i _ => by
    unfold addZK
    rw [if_neg (by omega)]
  clear m0 m1 ba sa bb sb bc q0 hGB hGR hz
  go_loopw [5] (fun i wr => ∃ k : Nat, k ≤ 16 ∧ i = .int .i64 k ∧ RowZ 125 16 wr w.heap.size w.heap.size (addZK f g k) ∧ wb.grownBy wr (some w.heap.size))
    (fun i _ => 16 - (intOf i).toNat)
  case atStart => exact ⟨0, by omega, rfl, hs0, World.grownBy.refl _ _⟩
  case round =>
    clear hs0
    obtain ⟨k, hk, rfl, hr, hgr⟩ := hrel
    by_cases hlt : k < 16
    · have hlt' : (k : Int) < 16 := by omega
      have c0 := hr.cell k hlt
      have e0 : addZK f g k k = f k := by unfold addZK; rw [if_neg (by omega)]
      rw [e0] at c0
      have c1 := (q1.kept hgr hne1).cell k hlt
      have f0 := hr.frozen k
      have r1 := hr.set k (f k + g k)
      have HF : RowZ 125 16 _ w.heap.size w.heap.size (addZK f g (k + 1)) := r1.1.congr fun i hi => by
        unfold addZK
        by_cases a1 : i = k
        · subst a1
          rw [if_pos rfl, if_pos (by omega)]
        · rw [if_neg a1]
          have : i < k ↔ i < k + 1 := by omega
          simp only [this]
      have hgr' := grown_trans hgr r1.2
      have l1 := h1 k
      have l2 := h2 k
      generalize f k = x at c0 r1 HF hgr' l1
      generalize g k = y at c1 r1 HF hgr' l2
      obtain ⟨z, hz'⟩ : ∃ z, z = x + y := ⟨_, rfl⟩
      have ez : x + y = z := hz'.symm
      have lz : -2147483648 ≤ z ∧ z ≤ 2147483648 := by omega
      rw [ez] at HF hgr'
      clear r1 hr hgr hz'
      go_wp2_with (fail)
      go_region
      all_goals
        go_wp2
        go_roundw
        case rel => exact ⟨k + 1, by omega, by go_num, HF, ⟨hgr'.os, hgr'.tape, hgr'.output, hgr'.size, hgr'.block⟩⟩
        case measure => simp [intOf]; omega
    · obtain rfl : k = 16 := by omega
      have hnl : ¬ ((16 : Nat) : Int) < 16 := by omega
      obtain ⟨F, hF⟩ : ∃ F : Nat → Int, F = fun i => f i + g i := ⟨_, rfl⟩
      have hr16 : RowZ 125 16 wr w.heap.size w.heap.size F := hr.congr fun i hi => by rw [hF]; unfold addZK; rw [if_pos hi]
      have hra := hr16.range
      have hk2 := m2.kept hgr hne2
      have hsC : (zV F 16).toArray.size = 16 := by simp [zV_length]
      have hsz : (Tryz.prog.info? 125).map (·.size) = some (zV F 16).length := by rw [zV_length]; exact hsz0
      have hsz2 : (Tryz.prog.info? 125).map (·.size) = some (zV F 16).toArray.size := by rw [hsC]; exact hsz0
      have hth2 : wr.there GR 0 (zV F 16).toArray.size := by rw [hsC]; exact hk2.there
      have hp := hk2.put (f' := F)
      have hbel : Below w.heap.size w (wr.setCells GR 0 (zV F 16)) := (bel.grown hgr bel.size (fun k hk => by cases hk; exact Nat.le_refl _)).grown hp.2 (Nat.le_trans bel.size hgr.size) (fun k hk => by cases hk; exact m2.lt.1)
      have hld := run_loadVar_mid (P := Tryz.prog) _ GR 0 125 _ _ hp.1.range Tryz.underlying125 rfl hsz
      have hone := zV_one F 16
      obtain ⟨Cs, hCs⟩ : ∃ Cs, Cs = zV F 16 := ⟨_, rfl⟩
      rw [← hCs] at hra hsz hsz2 hth2 hbel hld hone
      replace hCs : Hid (Cs = zV (fun i => f i + g i) 16) := by rw [Hid, hCs, hF]
      clear hp hk2 hr hr16 hgr m2 q1 bel hsC hF
      go_wp2_with (first | (refine wpList_load_mid rfl 125 _ rfl w.heap.size 0 rfl Cs _ hra Tryz.underlying125 rfl hsz ?_) | (refine wpList_store_mid rfl 125 _ _ rfl GR 0 Cs.toArray rfl rfl hth2 hsz2 (all_oneCell_toArray hone) ?_))
      (try simp only [Exit.inBlock, Exit.then])
      refine bodyPost_ret (v := .agg Cs.toArray) ?_ rfl ⟨by rw [hCs.out], hbel⟩
      simp [results, asAddr, hld]
def subZK (f g : Nat → Int) (k i : Nat) : Int := if i < k then f i - g i else f i
set_option maxHeartbeats 4000000 in
theorem l8Sub_any (f g : Nat → Int) (w : World) (h1 : ∀ i, -1073741824 ≤ f i ∧ f i ≤ 1073741824) (h2 : ∀ i, -1073741824 ≤ g i ∧ g i ≤ 1073741824) :
    Calls Tryz.prog 135 #[.agg (zV f 16).toArray, .agg (zV g 16).toArray] w fun e w' => e = .returned (.agg (zV (fun i => f i - g i) 16).toArray) ∧ Below w.heap.size w w' := by
  have hz := (zero_of_info infoZ16).1
  have hsz0 := (zero_of_info infoZ16).2
  have m0 := RowZ.made w 125 16 w.heap.size f (by decide) (Nat.le_refl _)
  obtain ⟨A, hA⟩ : ∃ A, A = (zV f 16).toArray := ⟨_, rfl⟩
  rw [← hA] at m0 ⊢
  have ba : Below w.heap.size w (w.alloc (.cells A 125)) := (Below.refl _ _).alloc (Nat.le_refl _) _
  have sa : (w.alloc (.cells A 125)).heap.size = w.heap.size + 1 := by simp
  have m1 := RowZ.made (w.alloc (.cells A 125)) 125 16 w.heap.size g (by decide) (by omega)
  obtain ⟨B, hB⟩ : ∃ B, B = (zV g 16).toArray := ⟨_, rfl⟩
  rw [← hB] at m1 ⊢
  have bb : Below (w.alloc (.cells A 125)).heap.size (w.alloc (.cells A 125)) ((w.alloc (.cells A 125)).alloc (.cells B 125)) := (Below.refl _ _).alloc (Nat.le_refl _) _
  have sb : ((w.alloc (.cells A 125)).alloc (.cells B 125)).heap.size = w.heap.size + 1 + 1 := by simp
  have m2 := RowZ.made ((w.alloc (.cells A 125)).alloc (.cells B 125)) 125 16 w.heap.size (fun _ => 0) (by decide) (by omega)
  obtain ⟨Z, hZ⟩ : ∃ Z, Z = (zV (fun _ => 0) 16).toArray := ⟨_, rfl⟩
  rw [← hZ] at hz m2
  clear hZ hA hB
  have bc : Below ((w.alloc (.cells A 125)).alloc (.cells B 125)).heap.size ((w.alloc (.cells A 125)).alloc (.cells B 125)) (((w.alloc (.cells A 125)).alloc (.cells B 125)).alloc (.cells Z 125)) := (Below.refl _ _).alloc (Nat.le_refl _) _
  have q0 := (m0.below bb).below bc
  have q1 := m1.below bc
  have bel := below_on (below_on ba bb) bc
  rw [sa] at q1
  rw [sb] at m2
  go_enter Tryz.func135, Tryz.ntmps135
  go_wp2_with (fail)
  obtain ⟨GB, hGB⟩ : ∃ GB, GB = w.heap.size + 1 := ⟨_, rfl⟩
  rw [← hGB] at q1 m2 ⊢
  obtain ⟨GR, hGR⟩ : ∃ GR, GR = GB + 1 := ⟨_, rfl⟩
  rw [← hGR] at m2 ⊢
  have hne1 : GB ≠ w.heap.size := by omega
  have hne2 : GR ≠ w.heap.size := by omega
  generalize ((w.alloc (.cells A 125)).alloc (.cells B 125)).alloc (.cells Z 125) = wb at q0 q1 m2 bel ⊢
  have hs0 : RowZ 125 16 wb w.heap.size w.heap.size (subZK f g 0) := q0.congr fun i _ => by
    unfold subZK
    rw [if_neg (by omega)]
  clear m0 m1 ba sa bb sb bc q0 hGB hGR hz
  go_loopw [5] (fun i wr => ∃ k : Nat, k ≤ 16 ∧ i = .int .i64 k ∧ RowZ 125 16 wr w.heap.size w.heap.size (subZK f g k) ∧ wb.grownBy wr (some w.heap.size))
    (fun i _ => 16 - (intOf i).toNat)
  case atStart => exact ⟨0, by omega, rfl, hs0, World.grownBy.refl _ _⟩
  case round =>
    clear hs0
    obtain ⟨k, hk, rfl, hr, hgr⟩ := hrel
    by_cases hlt : k < 16
    · have hlt' : (k : Int) < 16 := by omega
      have c0 := hr.cell k hlt
      have e0 : subZK f g k k = f k := by unfold subZK; rw [if_neg (by omega)]
      rw [e0] at c0
      have c1 := (q1.kept hgr hne1).cell k hlt
      have f0 := hr.frozen k
      have r1 := hr.set k (f k - g k)
      have HF : RowZ 125 16 _ w.heap.size w.heap.size (subZK f g (k + 1)) := r1.1.congr fun i hi => by
        unfold subZK
        by_cases a1 : i = k
        · subst a1
          rw [if_pos rfl, if_pos (by omega)]
        · rw [if_neg a1]
          have : i < k ↔ i < k + 1 := by omega
          simp only [this]
      have hgr' := grown_trans hgr r1.2
      have l1 := h1 k
      have l2 := h2 k
      generalize f k = x at c0 r1 HF hgr' l1
      generalize g k = y at c1 r1 HF hgr' l2
      obtain ⟨z, hz'⟩ : ∃ z, z = x - y := ⟨_, rfl⟩
      have ez : x - y = z := hz'.symm
      have lz : -2147483648 ≤ z ∧ z ≤ 2147483648 := by omega
      rw [ez] at HF hgr'
      clear r1 hr hgr hz'
      go_wp2_with (fail)
      go_region
      all_goals
        go_wp2
        go_roundw
        case rel => exact ⟨k + 1, by omega, by go_num, HF, ⟨hgr'.os, hgr'.tape, hgr'.output, hgr'.size, hgr'.block⟩⟩
        case measure => simp [intOf]; omega
    · obtain rfl : k = 16 := by omega
      have hnl : ¬ ((16 : Nat) : Int) < 16 := by omega
      obtain ⟨F, hF⟩ : ∃ F : Nat → Int, F = fun i => f i - g i := ⟨_, rfl⟩
      have hr16 : RowZ 125 16 wr w.heap.size w.heap.size F := hr.congr fun i hi => by rw [hF]; unfold subZK; rw [if_pos hi]
      have hra := hr16.range
      have hk2 := m2.kept hgr hne2
      have hsC : (zV F 16).toArray.size = 16 := by simp [zV_length]
      have hsz : (Tryz.prog.info? 125).map (·.size) = some (zV F 16).length := by rw [zV_length]; exact hsz0
      have hsz2 : (Tryz.prog.info? 125).map (·.size) = some (zV F 16).toArray.size := by rw [hsC]; exact hsz0
      have hth2 : wr.there GR 0 (zV F 16).toArray.size := by rw [hsC]; exact hk2.there
      have hp := hk2.put (f' := F)
      have hbel : Below w.heap.size w (wr.setCells GR 0 (zV F 16)) := (bel.grown hgr bel.size (fun k hk => by cases hk; exact Nat.le_refl _)).grown hp.2 (Nat.le_trans bel.size hgr.size) (fun k hk => by cases hk; exact m2.lt.1)
      have hld := run_loadVar_mid (P := Tryz.prog) _ GR 0 125 _ _ hp.1.range Tryz.underlying125 rfl hsz
      have hone := zV_one F 16
      obtain ⟨Cs, hCs⟩ : ∃ Cs, Cs = zV F 16 := ⟨_, rfl⟩
      rw [← hCs] at hra hsz hsz2 hth2 hbel hld hone
      replace hCs : Hid (Cs = zV (fun i => f i - g i) 16) := by rw [Hid, hCs, hF]
      clear hp hk2 hr hr16 hgr m2 q1 bel hsC hF
      go_wp2_with (first | (refine wpList_load_mid rfl 125 _ rfl w.heap.size 0 rfl Cs _ hra Tryz.underlying125 rfl hsz ?_) | (refine wpList_store_mid rfl 125 _ _ rfl GR 0 Cs.toArray rfl rfl hth2 hsz2 (all_oneCell_toArray hone) ?_))
      (try simp only [Exit.inBlock, Exit.then])
      refine bodyPost_ret (v := .agg Cs.toArray) ?_ rfl ⟨by rw [hCs.out], hbel⟩
      simp [results, asAddr, hld]
def pairZ (xs : List Int) (i : Nat) : Int := xs.getD (2 * i) 0 + 256 * xs.getD (2 * i + 1) 0
def ofZ (xs : List Int) (i : Nat) : Int := if i = 15 then pairZ xs 15 % 32768 else pairZ xs i
theorem byteZ {xs : List Int} (hb : ∀ x ∈ xs, 0 ≤ x ∧ x < 256) (i : Nat) : 0 ≤ xs.getD i 0 ∧ xs.getD i 0 < 256 := by
  rw [List.getD_eq_getElem?_getD]
  cases hk : xs[i]? with
  | none => simp
  | some x => exact hb x (List.mem_of_getElem? hk)
theorem pairZ_range {xs : List Int} (hb : ∀ x ∈ xs, 0 ≤ x ∧ x < 256) (i : Nat) : 0 ≤ pairZ xs i ∧ pairZ xs i < 65536 := by
  have := byteZ hb (2 * i)
  have := byteZ hb (2 * i + 1)
  unfold pairZ
  omega
theorem and_32767 (v : Int) (h0 : 0 ≤ v) (h1 : v < 65536) : bits .and .i64 v 32767 = v % 32768 := by
  obtain ⟨n, rfl⟩ : ∃ n : Nat, v = n := ⟨v.toNat, by omega⟩
  have e : bits .and .i64 (n : Int) 32767 = IntKind.i64.wrap ((BitVec.ofInt 64 (n : Int) &&& BitVec.ofInt 64 32767).toNat : Int) := rfl
  have e1 : (BitVec.ofInt 64 (n : Int)).toNat = n := by rw [BitVec.toNat_ofInt]; omega
  have e2 : (BitVec.ofInt 64 32767).toNat = 2 ^ 15 - 1 := rfl
  rw [e, BitVec.toNat_and, e1, e2, Nat.and_two_pow_sub_one_eq_mod, IntKind.wrap_i64]
  omega
set_option maxHeartbeats 4000000 in
theorem l8Of_any (p : Option Addr) (c : Nat) (xs : List Int) (w : World) (h : BytesIn w p 32 xs) (hb : ∀ x ∈ xs, 0 ≤ x ∧ x < 256) :
    Calls Tryz.prog 101 #[.slice p 32 c] w fun e w' => e = .returned (.agg (zV (ofZ xs) 16).toArray) ∧ Below w.heap.size w w' := by
  have hz := (zero_of_info infoZ16).1
  have hsz0 := (zero_of_info infoZ16).2
  obtain ⟨b, o, rfl, hcell⟩ := h (by decide)
  have lb : b < w.heap.size := World.block_lt_of_cell? w ⟨b, o + 0, none⟩ (hcell 0 (by omega))
  have m0 := RowZ.made w 125 16 w.heap.size (fun _ => 0) (by decide) (Nat.le_refl _)
  have m1' := fun X hX => RowZ.made X 125 16 w.heap.size (fun _ => 0) (by decide) hX
  obtain ⟨Z, hZ⟩ : ∃ Z, Z = (zV (fun _ => 0) 16).toArray := ⟨_, rfl⟩
  rw [← hZ] at hz m0
  simp only [← hZ] at m1'
  clear hZ
  have ba : Below w.heap.size w (w.alloc (.cells Z 125)) := (Below.refl _ _).alloc (Nat.le_refl _) _
  have sa : (w.alloc (.cells Z 125)).heap.size = w.heap.size + 1 := by simp
  have m1 := m1' (w.alloc (.cells Z 125)) (by omega)
  have bb : Below (w.alloc (.cells Z 125)).heap.size (w.alloc (.cells Z 125)) ((w.alloc (.cells Z 125)).alloc (.cells Z 125)) := (Below.refl _ _).alloc (Nat.le_refl _) _
  have q0 := m0.below bb
  have bel := below_on ba bb
  rw [sa] at m1
  go_enter Tryz.func101, Tryz.ntmps101
  go_wp2_with (fail)
  obtain ⟨GB, hGB⟩ : ∃ GB, GB = w.heap.size + 1 := ⟨_, rfl⟩
  rw [← hGB] at m1 ⊢
  have hne1 : w.heap.size ≠ GB := by omega
  have hbne : b ≠ GB := by omega
  have hlo : w.heap.size ≤ GB := by omega
  generalize (w.alloc (.cells Z 125)).alloc (.cells Z 125) = wb at q0 m1 bel ⊢
  have HB : Hid (∀ i, i < 32 → wb.cell? ⟨b, o + i, none⟩ = some (.int .u8 (xs.getD i 0))) := fun i hi => (bel.cell (p := ⟨b, o + i, none⟩) lb).trans (hcell i hi)
  have lbb : b < wb.heap.size := Nat.lt_of_lt_of_le lb bel.size
  have hs0 : RowZ 125 16 wb w.heap.size GB (fun i => if i < 0 then pairZ xs i else 0) := m1.congr fun i _ => by rw [if_neg (by omega)]
  clear m0 m1 m1' ba sa bb hGB hz hcell
  go_loopw [4] (fun i wr => ∃ k : Nat, k ≤ 16 ∧ i = .int .i64 k ∧ RowZ 125 16 wr w.heap.size GB (fun i => if i < k then pairZ xs i else 0) ∧ wb.grownBy wr (some GB))
    (fun i _ => 16 - (intOf i).toNat)
  case atStart => exact ⟨0, by omega, rfl, hs0, World.grownBy.refl _ _⟩
  case round =>
    clear hs0
    obtain ⟨k, hk, rfl, hr, hgr⟩ := hrel
    by_cases hlt : k < 16
    · have hlt' : (k : Int) < 16 := by omega
      have c0 := hr.cell k hlt
      simp only [Nat.lt_irrefl, if_false] at c0
      have f0 := hr.frozen k
      obtain ⟨k2, hk2⟩ : ∃ k2 : Nat, k2 = 2 * k := ⟨_, rfl⟩
      have ek2 : (2 : Int) * (k : Int) = (k2 : Int) := by omega
      obtain ⟨k3, hk3⟩ : ∃ k3 : Nat, k3 = 2 * k + 1 := ⟨_, rfl⟩
      have ek3 : (k2 : Int) + 1 = (k3 : Int) := by omega
      have lk2 : (k2 : Int) < 32 := by omega
      have lk3 : (k3 : Int) < 32 := by omega
      have x0 : wr.cell? ⟨b, o + k2, none⟩ = some (.int .u8 (xs.getD k2 0)) := by
        rw [← HB.out k2 (by omega)]
        simp only [World.cell?, hgr.block b lbb (by simp; exact hbne)]
      have x1 : wr.cell? ⟨b, o + k3, none⟩ = some (.int .u8 (xs.getD k3 0)) := by
        rw [← HB.out k3 (by omega)]
        simp only [World.cell?, hgr.block b lbb (by simp; exact hbne)]
      have r1 := hr.set k (pairZ xs k)
      have HF : RowZ 125 16 _ w.heap.size GB (fun i => if i < k + 1 then pairZ xs i else 0) := r1.1.congr fun i hi => by
        by_cases a1 : i = k
        · subst a1
          rw [if_pos rfl, if_pos (by omega)]
        · rw [if_neg a1]
          have : i < k ↔ i < k + 1 := by omega
          simp only [this]
      have hgr' := grown_trans hgr r1.2
      have l1 := byteZ hb k2
      have l2 := byteZ hb k3
      have HP : pairZ xs k = xs.getD k2 0 + 256 * xs.getD k3 0 := by rw [hk2, hk3]; rfl
      rw [HP] at HF hgr'
      generalize xs.getD k2 0 = x at x0 l1 HF hgr'
      generalize xs.getD k3 0 = y at x1 l2 HF hgr'
      obtain ⟨y2, hy2⟩ : ∃ y2, y2 = 256 * y := ⟨_, rfl⟩
      have ey : y * 256 = y2 := by omega
      have wy : IntKind.i64.wrap (y * 256) = y2 := by rw [IntKind.wrap_i64]; omega
      obtain ⟨z, hz'⟩ : ∃ z, z = x + 256 * y := ⟨_, rfl⟩
      have ez : x + y2 = z := by omega
      rw [← hz'] at HF hgr'
      have lz : 0 ≤ z ∧ z < 65536 := by omega
      have ly2 : 0 ≤ y2 ∧ y2 < 65536 := by omega
      clear r1 hr hgr hz' hy2 hk2 hk3 HP
      go_wp2_with (fail)
      go_region
      all_goals
        go_wp2
        go_roundw
        case rel => exact ⟨k + 1, by omega, by go_num, HF, ⟨hgr'.os, hgr'.tape, hgr'.output, hgr'.size, hgr'.block⟩⟩
        case measure => simp [intOf]; omega
    · obtain rfl : k = 16 := by omega
      have hnl : ¬ ((16 : Nat) : Int) < 16 := by omega
      have c0 := hr.cell 15 (by omega)
      simp only [show (15 : Nat) < 16 from by decide, if_true] at c0
      have f0 := hr.frozen 15
      have hp15 := pairZ_range hb 15
      have r1 := hr.set 15 (pairZ xs 15 % 32768)
      obtain ⟨F, hF⟩ : ∃ F : Nat → Int, F = ofZ xs := ⟨_, rfl⟩
      have hr16 : RowZ 125 16 _ w.heap.size GB F := r1.1.congr fun i hi => by
        rw [hF, ofZ]
        by_cases a1 : i = 15
        · rw [if_pos a1, if_pos a1]
        · rw [if_neg a1, if_neg a1, if_pos hi]
      have hgr' := grown_trans hgr r1.2
      have ea := and_32767 (pairZ xs 15) hp15.1 hp15.2
      generalize pairZ xs 15 = x at c0 hp15 r1 hr16 hgr' ea
      obtain ⟨x', hx'⟩ : ∃ x', x' = x % 32768 := ⟨_, rfl⟩
      rw [← hx'] at hr16 hgr' ea
      have hra := hr16.range
      have hk2 := q0.kept hgr' hne1
      have hsC : (zV F 16).toArray.size = 16 := by simp [zV_length]
      have hsz : (Tryz.prog.info? 125).map (·.size) = some (zV F 16).length := by rw [zV_length]; exact hsz0
      have hsz2 : (Tryz.prog.info? 125).map (·.size) = some (zV F 16).toArray.size := by rw [hsC]; exact hsz0
      have hth2 : (wr.setCell ⟨GB, 15, none⟩ (.int .i64 x')).there w.heap.size 0 (zV F 16).toArray.size := by rw [hsC]; exact hk2.there
      have hp := hk2.put (f' := F)
      have hbel : Below w.heap.size w ((wr.setCell ⟨GB, 15, none⟩ (.int .i64 x')).setCells w.heap.size 0 (zV F 16)) := (bel.grown hgr' bel.size (fun k hk => by cases hk; exact hlo)).grown hp.2 (Nat.le_trans bel.size hgr'.size) (fun k hk => by cases hk; exact Nat.le_refl _)
      have hld := run_loadVar_mid (P := Tryz.prog) _ w.heap.size 0 125 _ _ hp.1.range Tryz.underlying125 rfl hsz
      have hone := zV_one F 16
      obtain ⟨Cs, hCs⟩ : ∃ Cs, Cs = zV F 16 := ⟨_, rfl⟩
      rw [← hCs] at hra hsz hsz2 hth2 hbel hld hone
      replace hCs : Hid (Cs = zV (ofZ xs) 16) := by rw [Hid, hCs, hF]
      clear hp hk2 hr hr16 hgr hgr' q0 bel hsC hF r1 hx' HB
      go_wp2_with (first | (refine wpList_load_mid rfl 125 _ rfl GB 0 rfl Cs _ hra Tryz.underlying125 rfl hsz ?_) | (refine wpList_store_mid rfl 125 _ _ rfl w.heap.size 0 Cs.toArray rfl rfl hth2 hsz2 (all_oneCell_toArray hone) ?_))
      (try simp only [Exit.inBlock, Exit.then])
      refine bodyPost_ret (v := .agg Cs.toArray) ?_ rfl ⟨by rw [hCs.out], hbel⟩
      simp [results, asAddr, hld]
theorem infoZ31 : (Tryz.prog.info? 203).map (fun i => (i.zero, i.size)) = some (some (.agg (zV (fun _ => 0) 31).toArray), 31) := by kernel_rfl
def mtZ (a b : Nat → Int) (i j k : Nat) : Int := rwsZ a b i k + rowZ a b i j k
theorem mtZ_zero (a b : Nat → Int) (i k : Nat) : mtZ a b i 0 k = rwsZ a b i k := by unfold mtZ rowZ; rw [if_neg (by omega)]; omega
theorem mtZ_step (a b : Nat → Int) (i j k : Nat) : (if k = i + j then mtZ a b i j (i + j) + a i * b j else mtZ a b i j k) = mtZ a b i (j + 1) k := by
  by_cases h : k = i + j
  · subst h
    rw [if_pos rfl]
    unfold mtZ rowZ
    rw [if_neg (by omega), if_pos (by omega), show i + j - i = j by omega]
    omega
  · rw [if_neg h]
    unfold mtZ rowZ
    by_cases h2 : i ≤ k ∧ k - i < j
    · rw [if_pos h2, if_pos (by omega)]
    · rw [if_neg h2, if_neg (by omega)]
theorem mtZ_le {a b : Nat → Int} (ha : okZ a) (hb : okZ b) (i j k : Nat) (hi : i ≤ 16) : -1168231104512 ≤ mtZ a b i j k ∧ mtZ a b i j k ≤ 1168231104512 := by
  have h1 := rwsZ_le ha hb k i
  have h2 := rowZ_le ha hb i j k
  unfold mtZ
  omega
set_option maxHeartbeats 8000000 in
theorem l8Mul_any (f g : Nat → Int) (w : World) (h1 : okZ f) (h2 : okZ g) :
    Calls Tryz.prog 136 #[.agg (zV f 16).toArray, .agg (zV g 16).toArray] w fun e w' => e = .returned (.agg (zV (mulZ f g) 16).toArray) ∧ Below w.heap.size w w' := by
  have hz := (zero_of_info infoZ16).1
  have hsz0 := (zero_of_info infoZ16).2
  have hz3 := (zero_of_info infoZ31).1
  have HM : Hid (∀ (X : World) (n : Nat), n ≤ X.heap.size → RowZ 125 16 (X.alloc (.cells (zV (fun _ => 0) 16).toArray 125)) n X.heap.size (fun _ => 0)) := fun X n hX => RowZ.made X 125 16 n (fun _ => 0) (by decide) hX
  have m0 := RowZ.made w 125 16 w.heap.size f (by decide) (Nat.le_refl _)
  obtain ⟨A, hA⟩ : ∃ A, A = (zV f 16).toArray := ⟨_, rfl⟩
  rw [← hA] at m0 ⊢
  have ba : Below w.heap.size w (w.alloc (.cells A 125)) := (Below.refl _ _).alloc (Nat.le_refl _) _
  have sa : (w.alloc (.cells A 125)).heap.size = w.heap.size + 1 := by simp
  have m1 := RowZ.made (w.alloc (.cells A 125)) 125 16 w.heap.size g (by decide) (by omega)
  obtain ⟨B, hB⟩ : ∃ B, B = (zV g 16).toArray := ⟨_, rfl⟩
  rw [← hB] at m1 ⊢
  have bb : Below (w.alloc (.cells A 125)).heap.size (w.alloc (.cells A 125)) ((w.alloc (.cells A 125)).alloc (.cells B 125)) := (Below.refl _ _).alloc (Nat.le_refl _) _
  have sb : ((w.alloc (.cells A 125)).alloc (.cells B 125)).heap.size = w.heap.size + 1 + 1 := by simp
  have m2 := HM.out ((w.alloc (.cells A 125)).alloc (.cells B 125)) w.heap.size (by omega)
  obtain ⟨Z, hZ⟩ : ∃ Z, Z = (zV (fun _ => 0) 16).toArray := ⟨_, rfl⟩
  rw [← hZ] at hz m2
  simp only [← hZ] at HM
  have bc : Below ((w.alloc (.cells A 125)).alloc (.cells B 125)).heap.size ((w.alloc (.cells A 125)).alloc (.cells B 125)) (((w.alloc (.cells A 125)).alloc (.cells B 125)).alloc (.cells Z 125)) := (Below.refl _ _).alloc (Nat.le_refl _) _
  have sc : (((w.alloc (.cells A 125)).alloc (.cells B 125)).alloc (.cells Z 125)).heap.size = w.heap.size + 1 + 1 + 1 := by simp
  have m3 := RowZ.made (((w.alloc (.cells A 125)).alloc (.cells B 125)).alloc (.cells Z 125)) 203 31 w.heap.size (fun _ => 0) (by decide) (by omega)
  obtain ⟨Y, hY⟩ : ∃ Y, Y = (zV (fun _ => 0) 31).toArray := ⟨_, rfl⟩
  rw [← hY] at hz3 m3
  clear hZ hA hB hY
  have bd : Below (((w.alloc (.cells A 125)).alloc (.cells B 125)).alloc (.cells Z 125)).heap.size (((w.alloc (.cells A 125)).alloc (.cells B 125)).alloc (.cells Z 125)) ((((w.alloc (.cells A 125)).alloc (.cells B 125)).alloc (.cells Z 125)).alloc (.cells Y 203)) := (Below.refl _ _).alloc (Nat.le_refl _) _
  have q0 := ((m0.below bb).below bc).below bd
  have q1 := (m1.below bc).below bd
  have q2 := m2.below bd
  have bel := below_on (below_on (below_on ba bb) bc) bd
  rw [sa] at q1
  rw [sb] at q2
  rw [sc] at m3
  go_enter Tryz.func136, Tryz.ntmps136
  go_wp2_with (fail)
  obtain ⟨GB, hGB⟩ : ∃ GB, GB = w.heap.size + 1 := ⟨_, rfl⟩
  rw [← hGB] at q1 q2 m3 ⊢
  obtain ⟨GR, hGR⟩ : ∃ GR, GR = GB + 1 := ⟨_, rfl⟩
  rw [← hGR] at q2 m3 ⊢
  obtain ⟨GT, hGT⟩ : ∃ GT, GT = GR + 1 := ⟨_, rfl⟩
  rw [← hGT] at m3 ⊢
  have hneA : w.heap.size ≠ GT := by omega
  have hneB : GB ≠ GT := by omega
  have hneR : GR ≠ GT := by omega
  have hloT : w.heap.size ≤ GT := by omega
  have hloR : w.heap.size ≤ GR := by omega
  generalize (((w.alloc (.cells A 125)).alloc (.cells B 125)).alloc (.cells Z 125)).alloc (.cells Y 203) = wb at q0 q1 q2 m3 bel ⊢
  have hs0 : RowZ 203 31 wb w.heap.size GT (rwsZ f g 0) := m3
  clear m0 m1 m2 m3 ba sa bb sb bc sc bd hGB hGR hGT hz3
  go_loopw [6] (fun i wr => ∃ k : Nat, k ≤ 16 ∧ i = .int .i64 k ∧ RowZ 203 31 wr w.heap.size GT (rwsZ f g k) ∧ wb.grownBy wr (some GT))
    (fun i _ => 16 - (intOf i).toNat)
  case atStart => exact ⟨0, by omega, rfl, hs0, World.grownBy.refl _ _⟩
  case round =>
    clear hs0
    obtain ⟨k, hk, rfl, hr, hgr⟩ := hrel
    by_cases hlt : k < 16
    · have hlt' : (k : Int) < 16 := by omega
      have hr0 : RowZ 203 31 wr w.heap.size GT (mtZ f g k 0) := hr.congr fun i _ => (mtZ_zero f g k i).symm
      clear hr
      go_wp2_with (fail)
      go_loopw [7] (fun j wx => ∃ m : Nat, m ≤ 16 ∧ j = .int .i64 m ∧ RowZ 203 31 wx w.heap.size GT (mtZ f g k m) ∧ wb.grownBy wx (some GT))
        (fun j _ => 16 - (intOf j).toNat)
      case atStart => exact ⟨0, by omega, rfl, hr0, hgr⟩
      case round =>
        clear hr0 hgr
        obtain ⟨m, hm, rfl, hr, hgr⟩ := hrel
        by_cases hlm : m < 16
        · have hlm' : (m : Int) < 16 := by omega
          obtain ⟨s, hs⟩ : ∃ s : Nat, s = k + m := ⟨_, rfl⟩
          have es : (k : Int) + (m : Int) = (s : Int) := by omega
          have ls : (s : Int) < 31 := by omega
          have ct := hr.cell s (by omega)
          have ft := hr.frozen s
          have ca := (q0.kept hgr hneA).cell k hlt
          have cb := (q1.kept hgr hneB).cell m hlm
          have lt := mtZ_le h1 h2 k m s (by omega)
          have lp := prod_le (h1 k) (h2 m)
          have r1 := hr.set s (mtZ f g k m s + f k * g m)
          have HF : RowZ 203 31 _ w.heap.size GT (mtZ f g k (m + 1)) := r1.1.congr fun i _ => by
            rw [hs]
            exact mtZ_step f g k m i
          have hgr' := grown_trans hgr r1.2
          generalize mtZ f g k m s = t at ct lt HF hgr' r1
          generalize f k = x at ca lp HF hgr' r1
          generalize g m = y at cb lp HF hgr' r1
          obtain ⟨z, hz'⟩ : ∃ z, z = x * y := ⟨_, rfl⟩
          have ez : x * y = z := hz'.symm
          rw [ez] at lp HF hgr'
          obtain ⟨v, hv⟩ : ∃ v, v = t + z := ⟨_, rfl⟩
          have ev : t + z = v := hv.symm
          rw [ev] at HF hgr'
          have lv : -1236950581248 ≤ v ∧ v ≤ 1236950581248 := by omega
          clear r1 hr hgr hz' hv hs
          go_wp2_with (fail)
          go_region
          all_goals
            go_wp2
            go_roundw
            case rel => exact ⟨m + 1, by omega, by go_num, HF, ⟨hgr'.os, hgr'.tape, hgr'.output, hgr'.size, hgr'.block⟩⟩
            case measure => simp [intOf]; omega
        · obtain rfl : m = 16 := by omega
          have hnm : ¬ ((16 : Nat) : Int) < 16 := by omega
          have hr' : RowZ 203 31 wr w.heap.size GT (rwsZ f g (k + 1)) := hr
          go_wp2_with (fail)
          go_roundw
          case rel => exact ⟨k + 1, by omega, by go_num, hr', hgr⟩
          case measure => simp [intOf]; omega
    · obtain rfl : k = 16 := by omega
      have hnl : ¬ ((16 : Nat) : Int) < 16 := by omega
      have q2' := q2.kept hgr hneR
      have bel' := bel.grown hgr bel.size (fun k hk => by cases hk; exact hloT)
      have HT : Hid (∀ k, -1168231104512 ≤ rwsZ f g 16 k ∧ rwsZ f g 16 k ≤ 1168231104512) := fun k => by
        have := rwsZ_le h1 h2 k 16
        omega
      have CF := fldZ_le h1 h2
      have C1 := fun X => l8Carry_any (fldZ (rwsZ f g 16)) X (fun i => (CF i).1) (fun i => (CF i).2)
      have hc1 := cry_head (f := fldZ (rwsZ f g 16)) (M := 2147516417) (fun i => by have := (CF i).1; omega) (fun i => by have := (CF i).2; omega) (by omega)
      have C2 := fun X => l8Carry_any (cryZ (fldZ (rwsZ f g 16))) X (fun i => by
        by_cases h : i = 0
        · subst h; omega
        · have := cryZ_tail (fldZ (rwsZ f g 16)) i h; omega) (fun i => by
        by_cases h : i = 0
        · subst h; omega
        · have := cryZ_tail (fldZ (rwsZ f g 16)) i h; omega)
      have HE : Hid (cryZ (cryZ (fldZ (rwsZ f g 16))) = mulZ f g) := rfl
      rw [HE.out] at C2
      clear CF hc1 HE
      generalize rwsZ f g 16 = T at hr HT C1 C2
      have mO := HM.out wr w.heap.size bel'.size
      have bo : Below wr.heap.size wr (wr.alloc (.cells Z 125)) := (Below.refl _ _).alloc (Nat.le_refl _) _
      have hl2 := q2'.lt.2
      have hlT := hr.lt.2
      replace hr := hr.below bo
      replace q2' := q2'.below bo
      replace bel' := below_on bel' bo
      obtain ⟨GO, hGO⟩ : ∃ GO, GO = wr.heap.size := ⟨_, rfl⟩
      rw [← hGO] at mO hl2 hlT
      have hneT : GT ≠ GO := Nat.ne_of_lt hlT
      have hneR2 : GR ≠ GO := Nat.ne_of_lt hl2
      have hs0 : RowZ 125 16 (wr.alloc (.cells Z 125)) w.heap.size GO (fun i => if i < 0 then fldZ T i else 0) := mO.congr fun i _ => by rw [if_neg (by omega)]
      have hloO := mO.lt.1
      clear q0 q1 q2 bel HM mO bo hgr
      go_wp2_with (fail)
      rw [← hGO]
      generalize wr.alloc (.cells Z 125) = wc at hr q2' bel' hs0 ⊢
      clear hGO hz
      go_loopw [9] (fun i wx => ∃ k : Nat, k ≤ 16 ∧ i = .int .i64 k ∧ RowZ 125 16 wx w.heap.size GO (fun i => if i < k then fldZ T i else 0) ∧ wc.grownBy wx (some GO))
        (fun i _ => 16 - (intOf i).toNat)
      case atStart => exact ⟨0, by omega, rfl, hs0, World.grownBy.refl _ _⟩
      case round =>
        clear hs0
        obtain ⟨k, hk, rfl, ho, hgr⟩ := hrel
        by_cases hlt : k < 16
        · have hlt' : (k : Int) < 16 := by omega
          have hlt3 : (k : Int) < 31 := by omega
          have ct := (hr.kept hgr hneT).cell k (by omega)
          have co := ho.cell k hlt
          simp only [Nat.lt_irrefl, if_false] at co
          have fo := ho.frozen k
          have r1 := ho.set k (T k)
          have lt := HT.out k
          by_cases h15 : k < 15
          · have h15' : (k : Int) < 15 := by omega
            have hrk := (hr.kept hgr hneT).kept r1.2 hneT
            obtain ⟨k6, hk6⟩ : ∃ k6 : Nat, k6 = k + 16 := ⟨_, rfl⟩
            have ek6 : (k : Int) + 16 = (k6 : Int) := by omega
            have lk6 : (k6 : Int) < 31 := by omega
            have c6 := hrk.cell k6 (by omega)
            have l6 := HT.out k6
            have co2 := r1.1.cell k hlt
            simp only [if_true] at co2
            have fo2 := r1.1.frozen k
            have r2 := r1.1.set k (T k + 38 * T k6)
            have HF : RowZ 125 16 _ w.heap.size GO (fun i => if i < k + 1 then fldZ T i else 0) := r2.1.congr fun i hi => by
              by_cases a1 : i = k
              · subst a1
                rw [if_pos rfl, if_pos (by omega), fldZ, if_pos h15, hk6]
              · rw [if_neg a1, if_neg a1]
                have : i < k ↔ i < k + 1 := by omega
                simp only [this]
            have hgr' := grown_trans hgr (grown_trans r1.2 r2.2)
            generalize T k = x at ct lt co2 fo2 r1 r2 HF hgr' c6
            generalize T k6 = y at c6 l6 r2 HF hgr'
            obtain ⟨y3, hy3⟩ : ∃ y3, y3 = 38 * y := ⟨_, rfl⟩
            have ey3 : 38 * y = y3 := hy3.symm
            rw [ey3] at HF hgr'
            obtain ⟨z, hz'⟩ : ∃ z, z = x + y3 := ⟨_, rfl⟩
            have ez : x + y3 = z := hz'.symm
            rw [ez] at HF hgr'
            have ly3 : -44392781971456 ≤ y3 ∧ y3 ≤ 44392781971456 := by omega
            have lz : -45561013075968 ≤ z ∧ z ≤ 45561013075968 := by omega
            clear r1 r2 ho hgr hrk hz' hy3 hk6
            go_wp2_with (fail)
            go_region
            all_goals
              go_wp2
              go_roundw
              case rel => exact ⟨k + 1, by omega, by go_num, HF, ⟨hgr'.os, hgr'.tape, hgr'.output, hgr'.size, hgr'.block⟩⟩
              case measure => simp [intOf]; omega
          · obtain rfl : k = 15 := by omega
            have h15' : ¬ ((15 : Nat) : Int) < 15 := by omega
            have HF : RowZ 125 16 _ w.heap.size GO (fun i => if i < 15 + 1 then fldZ T i else 0) := r1.1.congr fun i hi => by
              by_cases a1 : i = 15
              · subst a1
                rw [if_pos rfl, if_pos (by omega), fldZ, if_neg (by omega)]
              · rw [if_neg a1]
                have : i < 15 ↔ i < 15 + 1 := by omega
                simp only [this]
            have hgr' := grown_trans hgr r1.2
            generalize T 15 = x at ct lt HF hgr' r1
            clear r1 ho hgr
            go_wp2_with (fail)
            go_roundw
            case rel => exact ⟨15 + 1, by omega, by go_num, HF, hgr'⟩
            case measure => simp [intOf]
        · obtain rfl : k = 16 := by omega
          have hno : ¬ ((16 : Nat) : Int) < 16 := by omega
          have ho16 : RowZ 125 16 wr w.heap.size GO (fldZ T) := ho.congr fun i hi => by rw [if_pos hi]
          have hra := ho16.range
          have hk2 := q2'.kept hgr hneR2
          have bel2 := bel'.grown hgr bel'.size (fun k hk => by cases hk; exact hloO)
          obtain ⟨F, hF⟩ : ∃ F, F = fldZ T := ⟨_, rfl⟩
          rw [← hF] at hra
          simp only [← hF] at C1 C2
          have hszF : (Tryz.prog.info? 125).map (·.size) = some (zV F 16).length := by rw [zV_length]; exact hsz0
          obtain ⟨Fs, hFs⟩ : ∃ Fs, Fs = zV F 16 := ⟨_, rfl⟩
          rw [← hFs] at hra hszF
          simp only [← hFs] at C1
          clear hF hFs ho ho16 hr HT hgr q2' bel'
          go_wp2_with (refine wpList_load_mid rfl 125 _ rfl GO 0 rfl Fs _ hra Tryz.underlying125 rfl hszF ?_)
          refine (C1 _).mono ?_
          rintro e w5 ⟨rfl, b5⟩
          go_wp2_with (fail)
          refine (C2 _).mono ?_
          rintro e w6 ⟨rfl, b6⟩
          have hk3 := (hk2.below b5).below b6
          have bel3 := below_on (below_on bel2 b5) b6
          obtain ⟨M, hM⟩ : ∃ M, M = mulZ f g := ⟨_, rfl⟩
          rw [← hM]
          have hsC : (zV M 16).toArray.size = 16 := by simp [zV_length]
          have hsz : (Tryz.prog.info? 125).map (·.size) = some (zV M 16).length := by rw [zV_length]; exact hsz0
          have hsz2 : (Tryz.prog.info? 125).map (·.size) = some (zV M 16).toArray.size := by rw [hsC]; exact hsz0
          have hth2 : w6.there GR 0 (zV M 16).toArray.size := by rw [hsC]; exact hk3.there
          have hp := hk3.put (f' := M)
          have hbel : Below w.heap.size w (w6.setCells GR 0 (zV M 16)) := bel3.grown hp.2 bel3.size (fun k hk => by cases hk; exact hloR)
          have hld := run_loadVar_mid (P := Tryz.prog) _ GR 0 125 _ _ hp.1.range Tryz.underlying125 rfl hsz
          have hone := zV_one M 16
          obtain ⟨Cs, hCs⟩ : ∃ Cs, Cs = zV M 16 := ⟨_, rfl⟩
          rw [← hCs] at hsz hsz2 hth2 hbel hld hone ⊢
          replace hCs : Hid (Cs = zV (mulZ f g) 16) := by rw [Hid, hCs, hM]
          clear hp hk2 hk3 bel2 bel3 hsC hM b5 b6 C1 C2
          go_wp2_with (refine wpList_store_mid rfl 125 _ _ rfl GR 0 Cs.toArray rfl rfl hth2 hsz2 (all_oneCell_toArray hone) ?_)
          (try simp only [Exit.inBlock, Exit.then])
          refine bodyPost_ret (v := .agg Cs.toArray) ?_ rfl ⟨by rw [hCs.out], hbel⟩
          simp [results, asAddr, Act.put, hld]
end Go.Proofs.YtnpffnhiefgglaaGreatDoor
