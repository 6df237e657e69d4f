/-
  What slices.Reverse does to a row of bytes that the call owns, whatever its block's type; condition: at most 2^40 bytes.
-/
import Derived.Test.YtkkaipeklbhliaaInfo
namespace Go.Proofs.Ytkkaipeklbhliaa
open Go.RowKit
set_option maxRecDepth 100000

/-- Reversed from both ends, k times. -/
def revK (xs : List Int) (n k : Nat) : List Int := (List.range n).map fun (i : Nat) => if i < k ∨ n ≤ i + k then xs.getD (n - 1 - i) 0 else xs.getD i 0
theorem revK_length (xs : List Int) (n k : Nat) : (revK xs n k).length = n := by simp [revK]
theorem revK_zero (xs : List Int) (n : Nat) (hx : xs.length = n) : revK xs n 0 = xs := by
  apply List.ext_getElem
  · simp [revK, hx]
  · intro i h1 h2
    simp [revK] at h1 ⊢
    rw [if_neg (by omega)]
    simp [List.getElem?_eq_getElem h2]
theorem revK_at (xs : List Int) (n k i : Nat) (hi : i < n) : (revK xs n k)[i]? = some (if i < k ∨ n ≤ i + k then xs.getD (n - 1 - i) 0 else xs.getD i 0) := by
  simp [revK, hi]
theorem revK_end (xs : List Int) (n k : Nat) (hx : xs.length = n) (h : n ≤ 2 * k + 1) : revK xs n k = xs.reverse := by
  apply List.ext_getElem
  · simp [revK, hx]
  · intro i h1 h2
    simp [revK] at h1
    simp at h2
    rw [List.getElem_reverse]
    simp only [revK, List.getElem_map, List.getElem_range, List.getD_eq_getElem?_getD]
    by_cases hc : i < k ∨ n ≤ i + k
    · rw [if_pos hc, List.getElem?_eq_getElem (by omega)]
      simp [hx]
    · rw [if_neg hc]
      have e : xs.length - 1 - i = i := by omega
      rw [List.getElem?_eq_getElem (by omega)]
      simp [e]
theorem revK_step (xs : List Int) (n k j : Nat) (hj : j + k + 1 = n) (hkj : k < j) :
    (((revK xs n k).map (Value.int .u8)).set k (.int .u8 (xs.getD j 0))).set j (.int .u8 (xs.getD k 0)) = (revK xs n (k + 1)).map (Value.int .u8) := by
  apply List.ext_getElem?
  intro i
  by_cases hi : i < n
  · rw [List.getElem?_map, revK_at xs n (k + 1) i hi]
    by_cases e1 : i = j
    · subst e1
      rw [List.getElem?_set_self (by simp [revK_length]; omega), if_pos (by omega)]
      simp [show n - 1 - i = k by omega]
    · rw [List.getElem?_set_ne (by omega)]
      by_cases e2 : i = k
      · subst e2
        rw [List.getElem?_set_self (by simp [revK_length]; omega), if_pos (by omega)]
        simp [show n - 1 - i = j by omega]
      · rw [List.getElem?_set_ne (by omega), List.getElem?_map, revK_at xs n k i hi]
        by_cases hc : i < k ∨ n ≤ i + k
        · rw [if_pos hc, if_pos (by omega)]
        · rw [if_neg hc, if_neg (by omega)]
  · rw [List.getElem?_eq_none (by simp [revK_length]; omega), List.getElem?_eq_none (by simp [revK_length]; omega)]

set_option maxHeartbeats 2000000 in
theorem reverse_any {ty : Nat} (lo hi : Nat) (p : Option Addr) (n c : Nat) (xs : List Int) (w : World) (hn : n ≤ 1099511627776) (h : Own ty w lo hi (.slice p n c) n xs) :
    Calls Try.prog 47 #[.slice p n c] w fun e w' => e = .returned (.tuple #[]) ∧ Own ty w' lo hi (.slice p n c) n xs.reverse ∧ w.grownBy w' (Value.ownBlock (.slice p n c)) := by
  have hx := h.len
  obtain ⟨hown0, hhi⟩ := h
  rw [← revK_zero xs n hx] at hown0
  go_enter Try.func47, Try.ntmps47
  go_wp2
  go_loopw [2, 3] (fun i q wr => ∃ k : Nat, 2 * k ≤ n + 1 ∧ i = .int .i64 k ∧ q = .int .i64 ((n : Int) - 1 - k) ∧ wr.ownsRow lo ty 1 (.slice p n c) n ((revK xs n k).map (Value.int .u8)) ∧ w.grownBy wr (Value.ownBlock (.slice p n c)))
    (fun i _ _ => n + 1 - (intOf i).toNat)
  case atStart => exact ⟨0, by omega, rfl, by go_num, hown0, World.grownBy.refl _ _⟩
  case round =>
    clear hown0
    obtain ⟨k, hk, rfl, rfl, hown, hgr⟩ := hrel
    by_cases hlt : 2 * k + 1 < n
    · obtain ⟨j, hj⟩ : ∃ j : Nat, j + k + 1 = n := ⟨n - 1 - k, by omega⟩
      have hij : ((n : Int) - 1 - (k : Int)) = (j : Int) := by omega
      have hkj : k < j := by omega
      rw [hij]
      clear hij
      obtain ⟨g, rfl⟩ := owns_at hown (by omega)
      have c1 : wr.cell? ⟨g, k, none⟩ = some (.int .u8 (xs.getD k 0)) := by
        rw [hown.cellAt k (by omega), List.getElem?_map, revK_at xs n k k (by omega), if_neg (by omega)]; rfl
      have c2 : wr.cell? ⟨g, j, none⟩ = some (.int .u8 (xs.getD j 0)) := by
        rw [hown.cellAt j (by omega), List.getElem?_map, revK_at xs n k j (by omega), if_neg (by omega)]; rfl
      have f1 := hown.frozenAt k
      have f2 := hown.frozenAt j
      have st1 := hown.stored k (.int .u8 (xs.getD j 0))
      have st2 := st1.1.stored j (.int .u8 (xs.getD k 0))
      rw [revK_step xs n k j hj hkj] at st2
      have hgr2 := grown_trans (grown_trans hgr st1.2) st2.2
      obtain ⟨u, hu⟩ : ∃ u, u = xs.getD k 0 := ⟨_, rfl⟩
      obtain ⟨v, hv⟩ : ∃ v, v = xs.getD j 0 := ⟨_, rfl⟩
      rw [← hu] at c1 st2 hgr2
      rw [← hv] at c2 st2 hgr2
      clear st1 hu hv hown hgr
      go_wp2
      go_region
      all_goals
        go_wp2
        go_roundw
        case rel => exact ⟨k + 1, by omega, by go_num, by go_num, st2.1, ⟨hgr2.os, hgr2.tape, hgr2.output, hgr2.size, hgr2.block⟩⟩
        case measure => simp [intOf]; omega
    · rw [revK_end xs n k hx (by omega)] at hown
      have c1 : ¬ (k : Int) < (n : Int) - 1 - (k : Int) := by omega
      go_wp2
      go_end0
      exact ⟨rfl, ⟨hown, hhi⟩, hgr⟩

end Go.Proofs.Ytkkaipeklbhliaa
