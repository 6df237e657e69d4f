/-
  Plain facts on signs and bytes: bytes are read from their signs as they were, and signs from their bytes; put together twice they are what they were.
-/
import Derived.Test.YtjcombfcilbafaeHex
import Derived.Test.YtjcombfcilbafaeUnhex
import Derived.Test.YtjcombfcilbafaeXor
namespace Go.Proofs.Ytjcombfcilbafae
open Go.RowKit

theorem hv_sg (i : Int) (h0 : 0 ≤ i) (h1 : i < 16) : hv (sg i) = i := by
  have all : ∀ n : Fin 16, hv (sg ((n.val : Nat) : Int)) = ((n.val : Nat) : Int) := by decide +kernel
  have := all ⟨i.toNat, by omega⟩
  simpa only [Int.toNat_of_nonneg h0] using this
theorem sg_range (i : Int) : 0 ≤ sg i ∧ sg i < 256 := by
  unfold sg
  have := (([48, 49, 50, 51, 52, 53, 54, 55, 56, 57, 97, 98, 99, 100, 101, 102] : List UInt8).getD i.toNat 0).toNat_lt
  omega
theorem sg_hv (c : Int) (h : 0 ≤ hv c) : sg (hv c) = c := by
  unfold hv at h ⊢
  by_cases a1 : 48 ≤ c ∧ c ≤ 57
  · rw [if_pos a1]
    have all : ∀ n : Fin 10, sg ((n.val : Nat) : Int) = ((n.val : Nat) : Int) + 48 := by decide +kernel
    have := all ⟨(c - 48).toNat, by omega⟩
    simp only [Int.toNat_of_nonneg (show 0 ≤ c - 48 by omega)] at this
    omega
  · rw [if_neg a1] at h ⊢
    by_cases a2 : 97 ≤ c ∧ c ≤ 102
    · rw [if_pos a2]
      have all : ∀ n : Fin 6, sg (((n.val : Nat) : Int) + 10) = ((n.val : Nat) : Int) + 97 := by decide +kernel
      have := all ⟨(c - 97).toNat, by omega⟩
      simp only [Int.toNat_of_nonneg (show 0 ≤ c - 97 by omega)] at this
      rw [show c - 97 + 10 = c - 87 by omega] at this
      omega
    · rw [if_neg a2] at h
      omega

theorem hexL_length (xs : List Int) : (hexL xs).length = 2 * xs.length := by
  induction xs with
  | nil => rfl
  | cons z zs ih => simp [hexL] at ih ⊢; omega
theorem hexL_even (xs : List Int) (i : Nat) (h : i < xs.length) : (hexL xs).getD (2 * i) 0 = sg (xs.getD i 0 / 16) := by
  induction xs generalizing i with
  | nil => simp at h
  | cons z zs ih =>
    cases i with
    | zero => simp [hexL]
    | succ i =>
      have := ih i (by simpa using h)
      simpa [hexL, show 2 * (i + 1) = 2 * i + 1 + 1 by omega] using this
theorem hexL_odd (xs : List Int) (i : Nat) (h : i < xs.length) : (hexL xs).getD (2 * i + 1) 0 = sg (bits BinOp.and IntKind.u8 (xs.getD i 0) 15) := by
  induction xs generalizing i with
  | nil => simp at h
  | cons z zs ih =>
    cases i with
    | zero => simp [hexL]
    | succ i =>
      have := ih i (by simpa using h)
      simpa [hexL, show 2 * (i + 1) + 1 = 2 * i + 1 + 1 + 1 by omega] using this

theorem ch_str (xs : List Int) (i : Nat) (h : 0 ≤ xs.getD i 0) (h' : xs.getD i 0 < 256) : ch (strOfNums xs) i = xs.getD i 0 := by
  unfold ch
  rw [strOfNums_data]
  simp only [List.getD_eq_getElem?_getD, List.getElem?_map] at h h' ⊢
  cases hx : xs[i]? with
  | none => simp
  | some v =>
    rw [hx] at h h'
    simp at h h' ⊢
    omega

theorem byte_getD {xs : List Int} (hr : ∀ x ∈ xs, 0 ≤ x ∧ x < 256) (i : Nat) : 0 ≤ xs.getD i 0 ∧ xs.getD i 0 < 256 := by
  rw [List.getD_eq_getElem?_getD]
  cases hx : xs[i]? with
  | none => simp
  | some v => exact hr v (List.mem_of_getElem? hx)

theorem hex_ch {xs : List Int} (hr : ∀ x ∈ xs, 0 ≤ x ∧ x < 256) (i : Nat) (h : i < xs.length) :
    ch (strOfNums (hexL xs)) (2 * i) = sg (xs.getD i 0 / 16) ∧ ch (strOfNums (hexL xs)) (2 * i + 1) = sg (xs.getD i 0 % 16) := by
  have hb := byte_getD hr i
  have e1 := hexL_even xs i h
  have e2 := hexL_odd xs i h
  rw [and15 _ hb.1 hb.2] at e2
  have r1 := sg_range (xs.getD i 0 / 16)
  have r2 := sg_range (xs.getD i 0 % 16)
  exact ⟨by rw [ch_str _ _ (by omega) (by omega), e1], by rw [ch_str _ _ (by omega) (by omega), e2]⟩

theorem hex_good {xs : List Int} (hr : ∀ x ∈ xs, 0 ≤ x ∧ x < 256) : goodB (strOfNums (hexL xs)) = true := by
  rw [good_iff, strOfNums_size, hexL_length]
  refine ⟨by omega, fun j hj => ?_⟩
  have hb := byte_getD hr (j / 2)
  have hc := hex_ch hr (j / 2) (by omega)
  rcases Nat.mod_two_eq_zero_or_one j with h | h
  · rw [show 2 * (j / 2) = j by omega] at hc
    rw [hc.1, hv_sg _ (by omega) (by omega)]
    omega
  · rw [show 2 * (j / 2) + 1 = j by omega] at hc
    rw [hc.2, hv_sg _ (by omega) (by omega)]
    omega

theorem hex_unN {xs : List Int} (hr : ∀ x ∈ xs, 0 ≤ x ∧ x < 256) : unN (strOfNums (hexL xs)) = xs.length := by
  unfold unN
  rw [if_pos (hex_good hr), strOfNums_size, hexL_length]
  omega

theorem hex_unL {xs : List Int} (hr : ∀ x ∈ xs, 0 ≤ x ∧ x < 256) : unL (strOfNums (hexL xs)) = xs := by
  unfold unL
  rw [if_pos (hex_good hr), strOfNums_size, hexL_length, show 2 * xs.length / 2 = xs.length by omega]
  apply List.ext_getElem
  · simp [outL]
  · intro i h1 h2
    have hb := byte_getD hr i
    have hc := hex_ch hr i h2
    simp only [outL, List.getElem_map, List.getElem_range]
    rw [hc.1, hc.2, hv_sg _ (by omega) (by omega), hv_sg _ (by omega) (by omega)]
    simp [List.getElem?_eq_getElem h2] at hb ⊢
    omega

theorem good_bytes {s : ByteArray} : ∀ x ∈ unL s, 0 ≤ x ∧ x < 256 := by
  intro x hx
  unfold unL at hx
  split at hx
  · rename_i hg
    have h := (good_iff s).1 hg
    simp only [outL, List.mem_map, List.mem_range] at hx
    obtain ⟨j, hj, rfl⟩ := hx
    have l1 := hv_le (ch s (2 * j))
    have l2 := hv_le (ch s (2 * j + 1))
    have g1 := h.2 (2 * j) (by omega)
    have g2 := h.2 (2 * j + 1) (by omega)
    omega
  · cases hx

theorem str_of_ch {s : ByteArray} {ys : List Int} (hl : ys.length = s.size) (h : ∀ i, i < s.size → ys.getD i 0 = ch s i) : strOfNums ys = s := by
  have e : (strOfNums ys).data = s.data := by
    apply Array.toList_inj.1
    rw [strOfNums_data]
    apply List.ext_getElem
    · simpa using hl
    · intro i h1 h2
      have hi : i < s.size := by simpa using h2
      have := h i hi
      simp only [List.getElem_map]
      simp [List.getElem?_eq_getElem (show i < ys.length by omega)] at this
      rw [this]
      unfold ch
      rw [List.getD_eq_getElem?_getD, List.getElem?_eq_getElem h2]
      simp
  cases hs : strOfNums ys
  cases s
  rw [hs] at e
  simp at e
  rw [e]

theorem unhex_hex {s : ByteArray} (hg : goodB s = true) : strOfNums (hexL (unL s)) = s := by
  have h := (good_iff s).1 hg
  have hu : unL s = outL s (s.size / 2) := by unfold unL; rw [if_pos hg]
  apply str_of_ch
  · rw [hexL_length, hu, outL_length]; omega
  · intro j hj
    have hlen : (unL s).length = s.size / 2 := by rw [hu, outL_length]
    have hb := byte_getD (good_bytes (s := s)) (j / 2)
    have hv1 : (unL s).getD (j / 2) 0 = 16 * hv (ch s (2 * (j / 2))) + hv (ch s (2 * (j / 2) + 1)) := by
      rw [hu]
      simp [outL, show j / 2 < s.size / 2 by omega]
    have l1 := hv_le (ch s (2 * (j / 2)))
    have l2 := hv_le (ch s (2 * (j / 2) + 1))
    have g1 := h.2 (2 * (j / 2)) (by omega)
    have g2 := h.2 (2 * (j / 2) + 1) (by omega)
    rcases Nat.mod_two_eq_zero_or_one j with hm | hm
    · have e := hexL_even (unL s) (j / 2) (by omega)
      rw [hv1, show (16 * hv (ch s (2 * (j / 2))) + hv (ch s (2 * (j / 2) + 1))) / 16 = hv (ch s (2 * (j / 2))) by omega, sg_hv _ g1] at e
      rwa [show 2 * (j / 2) = j by omega] at e
    · have e := hexL_odd (unL s) (j / 2) (by omega)
      rw [and15 _ hb.1 hb.2, hv1, show (16 * hv (ch s (2 * (j / 2))) + hv (ch s (2 * (j / 2) + 1))) % 16 = hv (ch s (2 * (j / 2) + 1)) by omega, sg_hv _ g2] at e
      rwa [show 2 * (j / 2) + 1 = j by omega] at e

theorem xor_twice (u v : Int) (h1 : 0 ≤ u) (h2 : u < 256) (h3 : 0 ≤ v) (h4 : v < 256) : bits BinOp.xor IntKind.u8 (bits BinOp.xor IntKind.u8 u v) v = u := by
  have hlt : u.toNat ^^^ v.toNat < 256 := Nat.xor_lt_two_pow (n := 8) (by omega) (by omega)
  rw [u8_xor u v h1 h2 h3 h4, u8_xor _ v (by omega) (by omega) h3 h4]
  simp only [Int.toNat_natCast]
  rw [Nat.xor_assoc, Nat.xor_self, Nat.xor_zero]
  omega

theorem xorL_twice {xs ys : List Int} (hx : ∀ x ∈ xs, 0 ≤ x ∧ x < 256) (hy : ∀ y ∈ ys, 0 ≤ y ∧ y < 256) : xorL (xorL xs ys) ys = xs.take (min xs.length ys.length) := by
  apply List.ext_getElem
  · simp [xorL]
  · intro i h1 h2
    simp only [List.length_take] at h2
    simp only [xorL, List.getElem_zipWith, List.getElem_take]
    have a := hx xs[i] (List.getElem_mem _)
    have b := hy ys[i] (List.getElem_mem _)
    exact xor_twice _ _ a.1 a.2 b.1 b.2

end Go.Proofs.Ytjcombfcilbafae
