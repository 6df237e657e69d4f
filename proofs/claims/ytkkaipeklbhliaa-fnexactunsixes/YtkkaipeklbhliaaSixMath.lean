/-
  FnExactSixes, FnExactUnsixes: signs of six bits, as numbers: what the signs of bytes are, place by place. Conditions: each fact's own.
-/
import Derived.Test.YtkkaipeklbhliaaWordMath
namespace Go.Proofs.Ytkkaipeklbhliaa
open Go.RowKit
set_option maxRecDepth 100000

theorem or_high {a x e : Nat} (hx : x < 2 ^ e) : a * 2 ^ e ||| x = a * 2 ^ e + x := by
  rw [← Nat.shiftLeft_eq, ← Nat.shiftLeft_add_eq_or_of_lt hx]

theorem six_or8 (a x : Int) (ha : 0 ≤ a ∧ a < 64) (hx : 0 ≤ x ∧ x < 256) : bits .or .i64 (a * 256) x = a * 256 + x := by
  obtain ⟨a, rfl⟩ := Int.eq_ofNat_of_zero_le ha.1
  obtain ⟨x, rfl⟩ := Int.eq_ofNat_of_zero_le hx.1
  have := i64_or (a * 256) x (by omega) (by omega)
  rw [or_high (e := 8) (by omega)] at this
  simpa using this

theorem six_or6 (a x : Int) (ha : 0 ≤ a ∧ a < 64) (hx : 0 ≤ x ∧ x < 64) : bits .or .i64 (a * 64) x = a * 64 + x := by
  obtain ⟨a, rfl⟩ := Int.eq_ofNat_of_zero_le ha.1
  obtain ⟨x, rfl⟩ := Int.eq_ofNat_of_zero_le hx.1
  have := i64_or (a * 64) x (by omega) (by omega)
  rw [or_high (e := 6) (by omega)] at this
  simpa using this

theorem sixAnd63 (a : Int) : bits .and .i64 a 63 = a % 64 := i64_mask a 6 _ rfl (by decide)
theorem sixAnd255 (a : Int) : bits .and .i64 a 255 = a % 256 := i64_mask a 8 _ rfl (by decide)

/-- The signs of six bits. -/
def sixSigns : List UInt8 := [65, 66, 67, 68, 69, 70, 71, 72, 73, 74, 75, 76, 77, 78, 79, 80, 81, 82, 83, 84, 85, 86, 87, 88, 89, 90, 97, 98, 99, 100, 101, 102, 103, 104, 105, 106, 107, 108, 109, 110, 111, 112, 113, 114, 115, 116, 117, 118, 119, 120, 121, 122, 48, 49, 50, 51, 52, 53, 54, 55, 56, 57, 45, 95]
/-- The sign of a number below 64. -/
def sx (i : Int) : Int := (sixSigns.getD i.toNat 0).toNat

theorem sx_at (i : Int) (_h0 : 0 ≤ i) (_h1 : i < 64) (pf : i.toNat < (ByteArray.mk sixSigns.toArray).size) : (((ByteArray.mk sixSigns.toArray)[i.toNat]'pf).toNat : Int) = sx i := by
  unfold sx
  rw [List.getD_eq_getElem?_getD, List.getElem?_eq_getElem (show i.toNat < sixSigns.length by show i.toNat < 64; omega)]
  rfl

theorem sx_lt (i : Int) : 0 ≤ sx i ∧ sx i < 128 := by
  by_cases h : 0 ≤ i ∧ i < 64
  · have all : ∀ n : Fin 64, 0 ≤ sx ((n.val : Nat) : Int) ∧ sx ((n.val : Nat) : Int) < 128 := by decide +kernel
    have := all ⟨i.toNat, by omega⟩
    simp only [Int.toNat_of_nonneg h.1] at this
    exact this
  · by_cases h0 : 0 ≤ i
    · have : sixSigns[i.toNat]? = none := List.getElem?_eq_none (by show 64 ≤ i.toNat; omega)
      unfold sx
      rw [List.getD_eq_getElem?_getD, this]
      decide
    · have : i.toNat = 0 := by omega
      unfold sx
      rw [this]
      decide

/-- The number of six bits at a place of the signs of xs. -/
def sixD (xs : List Int) (j : Nat) : Int :=
  if j % 4 = 0 then xs.getD (3 * (j / 4)) 0 / 4
  else if j % 4 = 1 then xs.getD (3 * (j / 4)) 0 % 4 * 16 + xs.getD (3 * (j / 4) + 1) 0 / 16
  else if j % 4 = 2 then xs.getD (3 * (j / 4) + 1) 0 % 16 * 4 + xs.getD (3 * (j / 4) + 2) 0 / 64
  else xs.getD (3 * (j / 4) + 2) 0 % 64
theorem sixD0 (xs : List Int) (q : Nat) : sixD xs (4 * q) = xs.getD (3 * q) 0 / 4 := by
  unfold sixD; rw [if_pos (by omega), show 4 * q / 4 = q by omega]
theorem sixD1 (xs : List Int) (q : Nat) : sixD xs (4 * q + 1) = xs.getD (3 * q) 0 % 4 * 16 + xs.getD (3 * q + 1) 0 / 16 := by
  unfold sixD; rw [if_neg (by omega), if_pos (by omega), show (4 * q + 1) / 4 = q by omega]
theorem sixD2 (xs : List Int) (q : Nat) : sixD xs (4 * q + 2) = xs.getD (3 * q + 1) 0 % 16 * 4 + xs.getD (3 * q + 2) 0 / 64 := by
  unfold sixD; rw [if_neg (by omega), if_neg (by omega), if_pos (by omega), show (4 * q + 2) / 4 = q by omega]
theorem sixD3 (xs : List Int) (q : Nat) : sixD xs (4 * q + 3) = xs.getD (3 * q + 2) 0 % 64 := by
  unfold sixD; rw [if_neg (by omega), if_neg (by omega), if_neg (by omega), show (4 * q + 3) / 4 = q by omega]

/-- The first t signs of xs. -/
def sixT (xs : List Int) (t : Nat) : List Int := (List.range t).map fun j => sx (sixD xs j)
theorem sixT_length (xs : List Int) (t : Nat) : (sixT xs t).length = t := by simp [sixT]
theorem sixT_step (xs : List Int) (t : Nat) : sixT xs t ++ [sx (sixD xs t)] = sixT xs (t + 1) := by simp [sixT, List.range_succ]
/-- How many signs n bytes have. -/
def sixN (n : Nat) : Nat := (8 * n + 5) / 6
def sixL (xs : List Int) : List Int := sixT xs (sixN xs.length)

theorem getD_byte {xs : List Int} (hr : ∀ x ∈ xs, 0 ≤ x ∧ x < 256) (k : Nat) : 0 ≤ xs.getD k 0 ∧ xs.getD k 0 < 256 := by
  by_cases h : k < xs.length
  · rw [List.getD_eq_getElem?_getD, List.getElem?_eq_getElem h]
    exact hr _ (List.getElem_mem h)
  · rw [List.getD_eq_getElem?_getD, List.getElem?_eq_none (by omega)]
    decide

theorem sixD_lt {xs : List Int} (hr : ∀ x ∈ xs, 0 ≤ x ∧ x < 256) (j : Nat) : 0 ≤ sixD xs j ∧ sixD xs j < 64 := by
  have a := getD_byte hr (3 * (j / 4))
  have b := getD_byte hr (3 * (j / 4) + 1)
  have c := getD_byte hr (3 * (j / 4) + 2)
  unfold sixD
  split
  · omega
  · split
    · omega
    · split <;> omega

section
variable {xs : List Int} {k t : Nat} {H u : Int}
/-- What the places hold: the byte u at k behind what was held. -/
def SixH (xs : List Int) (k : Nat) (H : Int) : Prop := 0 ≤ H ∧ H < 16384 ∧ (0 < k → H % 256 = xs.getD (k - 1) 0)
theorem SixH.start : SixH xs 0 0 := ⟨by decide, by decide, fun h => by omega⟩
theorem SixH.next (hr : ∀ x ∈ xs, 0 ≤ x ∧ x < 256) (hu : u = xs.getD k 0) : SixH xs (k + 1) (H % 64 * 256 + u) := by
  have := getD_byte hr k
  refine ⟨by omega, by omega, fun _ => ?_⟩
  rw [show k + 1 - 1 = k by omega]
  omega
theorem dig8 (hr : ∀ x ∈ xs, 0 ≤ x ∧ x < 256) (hu : u = xs.getD k 0) (hb : 8 * ((k : Int) + 1) - 6 * t = 8) : (H % 64 * 256 + u) / 4 % 64 = sixD xs t := by
  obtain ⟨q, rfl⟩ : ∃ q, t = 4 * q := ⟨t / 4, by omega⟩
  obtain rfl : k = 3 * q := by omega
  have := getD_byte hr (3 * q)
  rw [sixD0]; omega
theorem dig10 (hr : ∀ x ∈ xs, 0 ≤ x ∧ x < 256) (hH : SixH xs k H) (hu : u = xs.getD k 0) (hb : 8 * ((k : Int) + 1) - 6 * t = 10) : (H % 64 * 256 + u) / 16 % 64 = sixD xs t := by
  obtain ⟨q, rfl⟩ : ∃ q, t = 4 * q + 1 := ⟨t / 4, by omega⟩
  obtain rfl : k = 3 * q + 1 := by omega
  have := getD_byte hr (3 * q + 1)
  have h := hH.2.2 (by omega)
  rw [show 3 * q + 1 - 1 = 3 * q by omega] at h
  have := hH.1
  rw [sixD1]; omega
theorem dig12 (hr : ∀ x ∈ xs, 0 ≤ x ∧ x < 256) (hH : SixH xs k H) (hu : u = xs.getD k 0) (hb : 8 * ((k : Int) + 1) - 6 * t = 12) : (H % 64 * 256 + u) / 64 % 64 = sixD xs t := by
  obtain ⟨q, rfl⟩ : ∃ q, t = 4 * q + 2 := ⟨t / 4, by omega⟩
  obtain rfl : k = 3 * q + 2 := by omega
  have := getD_byte hr (3 * q + 2)
  have h := hH.2.2 (by omega)
  rw [show 3 * q + 2 - 1 = 3 * q + 1 by omega] at h
  have := hH.1
  rw [sixD2]; omega
theorem dig6 (hr : ∀ x ∈ xs, 0 ≤ x ∧ x < 256) (hu : u = xs.getD k 0) (hb : 8 * ((k : Int) + 1) - 6 * t = 6) : (H % 64 * 256 + u) % 64 = sixD xs t := by
  obtain ⟨q, rfl⟩ : ∃ q, t = 4 * q + 3 := ⟨t / 4, by omega⟩
  obtain rfl : k = 3 * q + 2 := by omega
  have := getD_byte hr (3 * q + 2)
  rw [sixD3]; omega
/-- The last sign, where bits are left. -/
theorem end2 (hH : SixH xs k H) (hx : xs.length = k) (h3 : k % 3 = 1) : H * 16 % 64 = sixD xs (8 * k / 6) ∧ sixN k = 8 * k / 6 + 1 := by
  obtain ⟨q, rfl⟩ : ∃ q, k = 3 * q + 1 := ⟨k / 3, by omega⟩
  have h := hH.2.2 (by omega)
  rw [show 3 * q + 1 - 1 = 3 * q by omega] at h
  have := hH.1
  have e : xs.getD (3 * q + 1) 0 = 0 := by rw [List.getD_eq_getElem?_getD, List.getElem?_eq_none (by omega)]; rfl
  unfold sixN
  rw [show 8 * (3 * q + 1) / 6 = 4 * q + 1 by omega, sixD1, e]
  omega
theorem end4 (hH : SixH xs k H) (hx : xs.length = k) (h3 : k % 3 = 2) : H * 4 % 64 = sixD xs (8 * k / 6) ∧ sixN k = 8 * k / 6 + 1 := by
  obtain ⟨q, rfl⟩ : ∃ q, k = 3 * q + 2 := ⟨k / 3, by omega⟩
  have h := hH.2.2 (by omega)
  rw [show 3 * q + 2 - 1 = 3 * q + 1 by omega] at h
  have := hH.1
  have e : xs.getD (3 * q + 2) 0 = 0 := by rw [List.getD_eq_getElem?_getD, List.getElem?_eq_none (by omega)]; rfl
  unfold sixN
  rw [show 8 * (3 * q + 2) / 6 = 4 * q + 2 by omega, sixD2, e]
  omega
end

end Go.Proofs.Ytkkaipeklbhliaa
