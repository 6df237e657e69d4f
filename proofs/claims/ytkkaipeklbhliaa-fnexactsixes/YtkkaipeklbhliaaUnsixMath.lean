/-
  FnExactUnsixes: what signs of six bits mean, place by place. Conditions: each fact's own.
-/
import Derived.Test.YtkkaipeklbhliaaSixMath
namespace Go.Proofs.Ytkkaipeklbhliaa
open Go.RowKit
set_option maxRecDepth 100000

/-- What a sign means; -1. -/
def h6 (c : Int) : Int := if 65 ≤ c ∧ c ≤ 90 then c - 65 else if 97 ≤ c ∧ c ≤ 122 then c - 71 else if 48 ≤ c ∧ c ≤ 57 then c + 4 else if c = 45 then 62 else if c = 95 then 63 else -1
theorem h6_le (c : Int) : -1 ≤ h6 c ∧ h6 c < 64 := by unfold h6; split <;> (try split) <;> (try split) <;> (try split) <;> (try split) <;> omega
theorem h6_high (c : Int) (h : 123 ≤ c) : h6 c = -1 := by unfold h6; rw [if_neg (by omega), if_neg (by omega), if_neg (by omega), if_neg (by omega), if_neg (by omega)]
theorem h6_sx (i : Int) (h0 : 0 ≤ i) (h1 : i < 64) : h6 (sx i) = i := by
  have all : ∀ n : Fin 64, h6 (sx ((n.val : Nat) : Int)) = ((n.val : Nat) : Int) := by decide +kernel
  have := all ⟨i.toNat, by omega⟩
  simp only [Int.toNat_of_nonneg h0] at this
  exact this
theorem sx_h6 (c : Int) (h0 : 0 ≤ c) (h1 : c < 256) (h : 0 ≤ h6 c) : sx (h6 c) = c := by
  have all : ∀ n : Fin 256, 0 ≤ h6 ((n.val : Nat) : Int) → sx (h6 ((n.val : Nat) : Int)) = ((n.val : Nat) : Int) := by decide +kernel
  have := all ⟨c.toNat, by omega⟩
  simp only [Int.toNat_of_nonneg h0] at this
  exact this h

/-- The byte of a text at a place. -/
def c6 (s : ByteArray) (i : Nat) : Int := (s.data.toList.getD i 0).toNat
theorem c6_at (s : ByteArray) (i : Nat) (pf : i < s.size) : ((s[i]'pf).toNat : Int) = c6 s i := by
  unfold c6
  rw [List.getD_eq_getElem?_getD, List.getElem?_eq_getElem (by simpa using pf)]
  rfl
theorem c6_lt (s : ByteArray) (i : Nat) : 0 ≤ c6 s i ∧ c6 s i < 256 := by
  unfold c6
  have := (s.data.toList.getD i 0).toNat_lt
  omega
theorem c6_int (s : ByteArray) (i : Nat) (n : Int) (h : n = (i : Int)) (pf : n.toNat < s.size) : ((s[n.toNat]'pf).toNat : Int) = c6 s i := by
  subst h
  exact c6_at s i pf
/-- The number of six bits at a place of a text. -/
def d6 (s : ByteArray) (i : Nat) : Int := h6 (c6 s i)
theorem d6_le (s : ByteArray) (i : Nat) : -1 ≤ d6 s i ∧ d6 s i < 64 := h6_le _

/-- The byte at a place of what the signs mean. -/
def unD (s : ByteArray) (j : Nat) : Int :=
  if j % 3 = 0 then d6 s (4 * (j / 3)) * 4 + d6 s (4 * (j / 3) + 1) / 16
  else if j % 3 = 1 then d6 s (4 * (j / 3) + 1) % 16 * 16 + d6 s (4 * (j / 3) + 2) / 4
  else d6 s (4 * (j / 3) + 2) % 4 * 64 + d6 s (4 * (j / 3) + 3)
theorem unD0 (s : ByteArray) (q : Nat) : unD s (3 * q) = d6 s (4 * q) * 4 + d6 s (4 * q + 1) / 16 := by
  unfold unD; rw [if_pos (by omega), show 3 * q / 3 = q by omega]
theorem unD1 (s : ByteArray) (q : Nat) : unD s (3 * q + 1) = d6 s (4 * q + 1) % 16 * 16 + d6 s (4 * q + 2) / 4 := by
  unfold unD; rw [if_neg (by omega), if_pos (by omega), show (3 * q + 1) / 3 = q by omega]
theorem unD2 (s : ByteArray) (q : Nat) : unD s (3 * q + 2) = d6 s (4 * q + 2) % 4 * 64 + d6 s (4 * q + 3) := by
  unfold unD; rw [if_neg (by omega), if_neg (by omega), show (3 * q + 2) / 3 = q by omega]

/-- The first t bytes of what the signs mean. -/
def unT6 (s : ByteArray) (t : Nat) : List Int := (List.range t).map (unD s)
theorem unT6_length (s : ByteArray) (t : Nat) : (unT6 s t).length = t := by simp [unT6]
theorem unT6_step (s : ByteArray) (t : Nat) : unT6 s t ++ [unD s t] = unT6 s (t + 1) := by simp [unT6, List.range_succ]
theorem unT6_getD (s : ByteArray) {t j : Nat} (h : j < t) : (unT6 s t).getD j 0 = unD s j := by simp [unT6, h]

/-- Each of the first n signs is one. -/
def All6 (s : ByteArray) (n : Nat) : Prop := ∀ j, j < n → 0 ≤ d6 s j
theorem All6.more {s : ByteArray} {k : Nat} (h : All6 s k) (hx : 0 ≤ d6 s k) : All6 s (k + 1) := by
  intro j hj
  rcases Nat.lt_or_ge j k with h1 | h1
  · exact h j h1
  · obtain rfl : j = k := by omega
    exact hx
theorem unD_lt {s : ByteArray} {n : Nat} (h : All6 s n) {j : Nat} (hj : 8 * (j + 1) ≤ 6 * n) : 0 ≤ unD s j ∧ unD s j < 256 := by
  have l0 := d6_le s (4 * (j / 3))
  have l1 := d6_le s (4 * (j / 3) + 1)
  have l2 := d6_le s (4 * (j / 3) + 2)
  have l3 := d6_le s (4 * (j / 3) + 3)
  unfold unD
  split
  · have a := h (4 * (j / 3)) (by omega)
    have b := h (4 * (j / 3) + 1) (by omega)
    omega
  · split
    · have a := h (4 * (j / 3) + 1) (by omega)
      have b := h (4 * (j / 3) + 2) (by omega)
      omega
    · have a := h (4 * (j / 3) + 2) (by omega)
      have b := h (4 * (j / 3) + 3) (by omega)
      omega
theorem unT6_lt {s : ByteArray} {n t : Nat} (h : All6 s n) (ht : 8 * t ≤ 6 * n) : ∀ x ∈ unT6 s t, 0 ≤ x ∧ x < 256 := by
  intro x hx
  simp only [unT6, List.mem_map, List.mem_range] at hx
  obtain ⟨j, hj, rfl⟩ := hx
  exact unD_lt h (by omega)

/-- The signs are each one, and are those of the bytes that they mean. -/
def ok6 (s : ByteArray) : Bool := (List.range s.size).all (fun j => decide (0 ≤ d6 s j)) && decide ((strOfNums (sixL (unT6 s (6 * s.size / 8)))).toList = s.toList)
theorem ok6_iff (s : ByteArray) : ok6 s = true ↔ All6 s s.size ∧ (strOfNums (sixL (unT6 s (6 * s.size / 8)))).toList = s.toList := by simp [ok6, All6]
theorem ok6_not {s : ByteArray} {j : Nat} (hj : j < s.size) (h : d6 s j < 0) : ok6 s = false := by
  rw [Bool.eq_false_iff]
  intro hg
  have := ((ok6_iff s).1 hg).1 j hj
  omega
theorem ok6_other {s : ByteArray} (h : ¬ (strOfNums (sixL (unT6 s (6 * s.size / 8)))).toList = s.toList) : ok6 s = false := by
  rw [Bool.eq_false_iff]
  exact fun hg => h ((ok6_iff s).1 hg).2
def unN6 (s : ByteArray) : Nat := if ok6 s = true then 6 * s.size / 8 else 0
def unL6 (s : ByteArray) : List Int := if ok6 s = true then unT6 s (6 * s.size / 8) else []

section
variable {s : ByteArray} {k : Nat} {H : Int}
/-- What is held behind k signs. -/
def UnH (s : ByteArray) (k : Nat) (H : Int) : Prop := 0 ≤ H ∧ H < 4096 ∧ (0 < k → H % 64 = d6 s (k - 1))
theorem UnH.start : UnH s 0 0 := ⟨by decide, by decide, fun h => by omega⟩
theorem UnH.next (hx : 0 ≤ d6 s k) : UnH s (k + 1) (H % 64 * 64 + d6 s k) := by
  have := d6_le s k
  refine ⟨by omega, by omega, fun _ => ?_⟩
  rw [show k + 1 - 1 = k by omega]
  omega
theorem und4 (hH : UnH s k H) (hx : 0 ≤ d6 s k) (hb : k % 4 = 1) : (H % 64 * 64 + d6 s k) / 16 % 256 = unD s (6 * k / 8) := by
  obtain ⟨q, rfl⟩ : ∃ q, k = 4 * q + 1 := ⟨k / 4, by omega⟩
  have h := hH.2.2 (by omega)
  rw [show 4 * q + 1 - 1 = 4 * q by omega] at h
  have := hH.1
  have l := d6_le s (4 * q + 1)
  rw [show 6 * (4 * q + 1) / 8 = 3 * q by omega, unD0]; omega
theorem und2 (hH : UnH s k H) (hx : 0 ≤ d6 s k) (hb : k % 4 = 2) : (H % 64 * 64 + d6 s k) / 4 % 256 = unD s (6 * k / 8) := by
  obtain ⟨q, rfl⟩ : ∃ q, k = 4 * q + 2 := ⟨k / 4, by omega⟩
  have h := hH.2.2 (by omega)
  rw [show 4 * q + 2 - 1 = 4 * q + 1 by omega] at h
  have := hH.1
  have l := d6_le s (4 * q + 2)
  rw [show 6 * (4 * q + 2) / 8 = 3 * q + 1 by omega, unD1]; omega
theorem und0 (hH : UnH s k H) (hx : 0 ≤ d6 s k) (hb : k % 4 = 3) : (H % 64 * 64 + d6 s k) % 256 = unD s (6 * k / 8) := by
  obtain ⟨q, rfl⟩ : ∃ q, k = 4 * q + 3 := ⟨k / 4, by omega⟩
  have h := hH.2.2 (by omega)
  rw [show 4 * q + 3 - 1 = 4 * q + 2 by omega] at h
  have := hH.1
  have l := d6_le s (4 * q + 3)
  rw [show 6 * (4 * q + 3) / 8 = 3 * q + 2 by omega, unD2]; omega
end

section
variable {s : ByteArray} {w W : World} {e : Nat}
theorem un6_bad {p : Option Addr} {c : Nat} (hb : ok6 s = false) (ho : W.ownsRow w.heap.size e 1 (.slice p 0 c) 0 []) (hbel : Below w.heap.size w W) :
    ∃ p' c', Ending.returned (.tuple #[.slice p 0 c, .bool false]) = .returned (.tuple #[.slice p' (unN6 s) c', .bool (ok6 s)]) ∧ Own e W w.heap.size W.heap.size (.slice p' (unN6 s) c') (unN6 s) (unL6 s) ∧ Below w.heap.size w W := by
  have e1 : unN6 s = 0 := by simp [unN6, hb]
  have e2 : unL6 s = [] := by simp [unL6, hb]
  rw [e1, e2, hb]
  exact ⟨p, c, rfl, .of ho, hbel⟩
theorem un6_good {k : Nat} {v : Value} (hk : k = 6 * s.size / 8) (hb : ok6 s = true) (ho : W.ownsRow w.heap.size e 1 v k ((unT6 s k).map (Value.int .u8))) (hbel : Below w.heap.size w W) :
    ∃ p' c', Ending.returned (.tuple #[v, .bool true]) = .returned (.tuple #[.slice p' (unN6 s) c', .bool (ok6 s)]) ∧ Own e W w.heap.size W.heap.size (.slice p' (unN6 s) c') (unN6 s) (unL6 s) ∧ Below w.heap.size w W := by
  have e1 : unN6 s = k := by simp [unN6, hb, hk]
  have e2 : unL6 s = unT6 s k := by simp [unL6, hb, hk]
  rw [e1, e2, hb]
  obtain ⟨p, c, rfl⟩ := owns_form ho
  exact ⟨p, c, rfl, .of ho, hbel⟩
end

/-- The bytes of signs of bytes are they. -/
theorem c6_text {xs : List Int} (j : Nat) : c6 (strOfNums (sixL xs)) j = if j < sixN xs.length then sx (sixD xs j) else 0 := by
  unfold c6
  rw [strOfNums_data]
  simp only [List.getD_eq_getElem?_getD, List.getElem?_map, sixL, sixT]
  by_cases h : j < sixN xs.length
  · have := sx_lt (sixD xs j)
    simp [h]
    omega
  · rw [if_neg h, List.getElem?_eq_none (by simp; omega)]
    rfl
theorem size_text (xs : List Int) : (strOfNums (sixL xs)).size = sixN xs.length := by
  have : (strOfNums (sixL xs)).data.toList.length = sixN xs.length := by rw [strOfNums_data]; simp [sixL, sixT]
  simpa using this
theorem d6_text {xs : List Int} (hr : ∀ x ∈ xs, 0 ≤ x ∧ x < 256) {j : Nat} (h : j < sixN xs.length) : d6 (strOfNums (sixL xs)) j = sixD xs j := by
  unfold d6
  rw [c6_text, if_pos h]
  exact h6_sx _ (sixD_lt hr j).1 (sixD_lt hr j).2
theorem unD_text {xs : List Int} (hr : ∀ x ∈ xs, 0 ≤ x ∧ x < 256) {j : Nat} (h : j < xs.length) : unD (strOfNums (sixL xs)) j = xs.getD j 0 := by
  have hs : sixN xs.length = (8 * xs.length + 5) / 6 := rfl
  have h3 : j % 3 = 0 ∨ j % 3 = 1 ∨ j % 3 = 2 := by omega
  rcases h3 with h3 | h3 | h3
  · obtain ⟨q, rfl⟩ : ∃ q, j = 3 * q := ⟨j / 3, by omega⟩
    have a := getD_byte hr (3 * q)
    have b := getD_byte hr (3 * q + 1)
    rw [unD0, d6_text hr (by omega), d6_text hr (by omega), sixD0, sixD1]
    omega
  · obtain ⟨q, rfl⟩ : ∃ q, j = 3 * q + 1 := ⟨j / 3, by omega⟩
    have a := getD_byte hr (3 * q)
    have b := getD_byte hr (3 * q + 1)
    have c := getD_byte hr (3 * q + 2)
    rw [unD1, d6_text hr (by omega), d6_text hr (by omega), sixD1, sixD2]
    omega
  · obtain ⟨q, rfl⟩ : ∃ q, j = 3 * q + 2 := ⟨j / 3, by omega⟩
    have b := getD_byte hr (3 * q + 1)
    have c := getD_byte hr (3 * q + 2)
    rw [unD2, d6_text hr (by omega), d6_text hr (by omega), sixD2, sixD3]
    omega
theorem unT6_text {xs : List Int} (hr : ∀ x ∈ xs, 0 ≤ x ∧ x < 256) : unT6 (strOfNums (sixL xs)) xs.length = xs := by
  apply List.ext_getElem
  · simp [unT6]
  · intro i h1 h2
    have := unD_text hr h2
    rw [List.getD_eq_getElem?_getD, List.getElem?_eq_getElem h2] at this
    simpa [unT6] using this
theorem six_back {xs : List Int} (hr : ∀ x ∈ xs, 0 ≤ x ∧ x < 256) : ok6 (strOfNums (sixL xs)) = true ∧ unN6 (strOfNums (sixL xs)) = xs.length ∧ unL6 (strOfNums (sixL xs)) = xs := by
  have hz : 6 * (strOfNums (sixL xs)).size / 8 = xs.length := by rw [size_text]; unfold sixN; omega
  have hk : ok6 (strOfNums (sixL xs)) = true := by
    rw [ok6_iff, hz, unT6_text hr]
    refine ⟨fun j hj => ?_, rfl⟩
    rw [size_text] at hj
    rw [d6_text hr hj]
    exact (sixD_lt hr j).1
  exact ⟨hk, by simp [unN6, hk, hz], by simp [unL6, hk, hz, unT6_text hr]⟩

end Go.Proofs.Ytkkaipeklbhliaa
