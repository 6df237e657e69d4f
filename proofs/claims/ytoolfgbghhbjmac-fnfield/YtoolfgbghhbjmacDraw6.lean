/-
  What the draws of a tag's law answer: a key of 32 bytes or so, and some bytes.
-/
import Derived.Test.YtoolfgbghhbjmacDraw3
namespace Go.Proofs.Ytoolfgbghhbjmac
open Go.RowKit

theorem l1Max_zero (K : Nat) (w : World) : Calls Try.prog 45 #[.int .i64 (K : Int), .int .i64 0] w fun e w' => e = .returned (.int .i64 (K : Int)) ∧ w' = w := by
  by_cases h : (0 : Int) < (K : Int)
  · go_enter Try.func45, Try.ntmps45
    go_wp2
    go_ret
    exact ⟨rfl, rfl⟩
  · obtain rfl : K = 0 := by omega
    go_enter Try.func45, Try.ntmps45
    go_wp2
    go_ret
    exact ⟨rfl, rfl⟩

set_option maxHeartbeats 2000000 in
theorem l1DrawNear_any (a : Nat) (p : Option Addr) (n c : Nat) (xs : List Int) (K : Nat) (w : World) (hK1 : 1 ≤ K) (hK2 : K ≤ 500) (hcur : Cur w a p n c xs) :
    Calls Try.prog 46 #[.pointer (some ⟨a, 0, none⟩), .int .i64 (K : Int)] w fun e w' => ∃ g k c' ys, e = .returned (.slice (some ⟨g, 0, none⟩) k c') ∧ k ≤ 1000 ∧ Own 5 w' w.heap.size w'.heap.size (.slice (some ⟨g, 0, none⟩) k c') k ys ∧ (∀ y ∈ ys, 0 ≤ y ∧ y < 256) ∧ Cur w' a p n c xs ∧ w.grownBy w' (some a) := by
  obtain ⟨U, hU⟩ : ∃ U : Nat, U = K + 1 := ⟨_, rfl⟩
  obtain ⟨D, hD⟩ : ∃ D : Nat, D = K - 1 := ⟨_, rfl⟩
  have eU : (K : Int) + 1 = (U : Int) := by omega
  have eD : (K : Int) - 1 = (D : Int) := by omega
  have CU := fun w h => l1DrawJust_any a p n c xs U w (by omega) h
  have CD := fun w h => l1DrawJust_any a p n c xs D w (by omega) h
  have CK := fun w h => l1DrawJust_any a p n c xs K w (by omega) h
  clear hU hD
  go_enter Try.func46, Try.ntmps46
  go_wp2_with (fail)
  refine (l1Below_any a p n c xs 16 _ (by omega) (by omega) hcur).mono ?_
  rintro e w1 ⟨x, rfl, hx0, hx1, hc1, g1⟩
  by_cases h0 : x = 0
  · subst h0
    go_wp2_with (fail)
    refine (CU _ hc1).mono ?_
    rintro e w2 ⟨g, k, c', ys, rfl, hk, o2, hys, hc2, g2⟩
    go_wp2_with (fail)
    go_ret
    exact ⟨g, k, c', ys, rfl, hk, o2.mono g1.size (Nat.le_refl _), hys, hc2, grown_trans g1 g2⟩
  · by_cases h1 : x = 1
    · subst h1
      go_wp2_with (fail)
      refine (l1Max_zero D _).mono ?_
      rintro e w1 ⟨rfl, rfl⟩
      go_wp2_with (fail)
      refine (CD _ hc1).mono ?_
      rintro e w2 ⟨g, k, c', ys, rfl, hk, o2, hys, hc2, g2⟩
      go_wp2_with (fail)
      go_ret
      exact ⟨g, k, c', ys, rfl, hk, o2.mono g1.size (Nat.le_refl _), hys, hc2, grown_trans g1 g2⟩
    · by_cases h2 : x = 2
      · subst h2
        go_wp2
        go_ret
        exact ⟨_, 0, _, [], rfl, by omega, .of (World.ownsRow_made w1 #[] 0 g1.size (by unfold maxLen; omega) rfl), (fun y hy => by cases hy), hc1.below ((Below.refl w1.heap.size w1).alloc (Nat.le_refl _) _) hc1.lt hc1.code_lt, grown_trans g1 (World.grownBy_alloc w1 _ _)⟩
      · have d0 : (x == 0) = false := by simpa using h0
        have d1 : (x == 1) = false := by simpa using h1
        have d2 : (x == 2) = false := by simpa using h2
        go_wp2_with (fail)
        refine (CK _ hc1).mono ?_
        rintro e w2 ⟨g, k, c', ys, rfl, hk, o2, hys, hc2, g2⟩
        go_wp2_with (fail)
        go_ret
        exact ⟨g, k, c', ys, rfl, hk, o2.mono g1.size (Nat.le_refl _), hys, hc2, grown_trans g1 g2⟩

/-- The first k all 255, the others nought. -/
def fulls (k : Nat) : List Int := List.replicate k 255 ++ List.replicate (32 - k) 0
theorem fulls_set (k : Nat) (h : k < 32) : ((fulls k).map (Value.int .u8)).set k (.int .u8 255) = (fulls (k + 1)).map (Value.int .u8) := by
  rw [← List.map_set]
  congr 1
  unfold fulls
  rw [List.set_append_right _ _ (by simp), List.length_replicate, Nat.sub_self, show 32 - k = (32 - (k + 1)) + 1 by omega, List.replicate_succ, List.set_cons_zero, List.replicate_succ', List.append_assoc]
  rfl
theorem fulls_get (k : Nat) (h : k < 32) : ((fulls k).map (Value.int .u8))[k]? = some (.int .u8 0) := by
  unfold fulls
  rw [List.map_append, List.getElem?_append_right (by simp)]
  simp [show 0 < 32 - k by omega]
theorem fulls_byte (k : Nat) : ∀ y ∈ fulls k, 0 ≤ y ∧ y < 256 := by
  intro y hy
  simp only [fulls, List.mem_append, List.mem_replicate] at hy
  omega

end Go.Proofs.Ytoolfgbghhbjmac
