/-
  What the laws' draws of chapter 3 make of any code: some bytes of their own, at most 4001. Condition: the code is of bytes, at most 2^20.
-/
import Derived.Test.YtoolfgbghhbjmacDraws
namespace Go.Proofs.Ytoolfgbghhbjmac
open Go.RowKit

theorem zeros_made (z : Nat) : (madeCells #[Value.int .u8 0] z).toList = (List.replicate z (0 : Int)).map (Value.int .u8) := by
  rw [toList_madeCells_one]
  simp
theorem grown_none {a b c : World} {r : Option Nat} (h : a.grownBy b r) (k : b.grownBy c none) : a.grownBy c r :=
  grown_trans h ⟨k.os, k.tape, k.output, k.size, fun i hi _ => k.block i hi (by simp)⟩

theorem zeros_own {w w2 w3 : World} {a : Nat} {p : Option Addr} {n c : Nat} {xs : List Int} {z : Nat} (h1 : w.grownBy w2 (some a)) (h2 : Cur w2 a p n c xs) (h3 : w3.ownsRow w.heap.size 5 1 (.slice (some ⟨w2.heap.size, 0, none⟩) z z) z (madeCells #[Value.int .u8 0] (z * 1)).toList) (h4 : w2.grownBy w3 none) :
    Own 5 w3 w.heap.size w3.heap.size (.slice (some ⟨w2.heap.size, 0, none⟩) z z) z (List.replicate z 0) ∧ (∀ y ∈ List.replicate z (0 : Int), 0 ≤ y ∧ y < 256) ∧ Cur w3 a p n c xs ∧ w.grownBy w3 (some a) := by
  rw [Nat.mul_one, zeros_made] at h3
  refine ⟨.of h3, fun y hy => ?_, h2.below ((Below.refl w2.heap.size w2).grown h4 (Nat.le_refl _) (fun _ h => by cases h)) h2.lt h2.code_lt, grown_none h1 h4⟩
  have := List.eq_of_mem_replicate hy
  omega

set_option maxHeartbeats 2000000 in
theorem l1DrawJust_any (a : Nat) (p : Option Addr) (n c : Nat) (xs : List Int) (K : Nat) (w : World) (hK : K ≤ 1000) (hcur : Cur w a p n c xs) :
    Calls Try.prog 58 #[.pointer (some ⟨a, 0, none⟩), .int .i64 K] w fun e w' => ∃ g k c' ys, e = .returned (.slice (some ⟨g, 0, none⟩) k c') ∧ k ≤ 1000 ∧ Own 5 w' w.heap.size w'.heap.size (.slice (some ⟨g, 0, none⟩) k c') k ys ∧ (∀ y ∈ ys, 0 ≤ y ∧ y < 256) ∧ Cur w' a p n c xs ∧ w.grownBy w' (some a) := by
  obtain ⟨i0, hi, hz0, hz1, hz2⟩ := info_parts infoByte
  have ha := hcur.lt
  have hcl := hcur.code_lt
  go_enter Try.func58, Try.ntmps58
  go_wp2_with (fail)
  have hb0 : Below w.heap.size w (w.alloc (.cells #[] 5)) := (Below.refl _ _).alloc (Nat.le_refl _) _
  have o1 : (w.alloc (.cells #[] 5)).ownsRow w.heap.size 5 1 (.slice (some ⟨w.heap.size, 0, none⟩) 0 0) 0 (([] : List Int).map (Value.int .u8)) := World.ownsRow_made w #[] 0 (Nat.le_refl _) (by unfold maxLen; omega) rfl
  have hc1 := hcur.below hb0 ha hcl
  have gg : w.grownBy (w.alloc (.cells #[] 5)) (some a) := World.grownBy_alloc w _ _
  go_loopw [5, 6] (fun v i wr => ∃ (k : Nat) (ys : List Int), k ≤ K ∧ i = .int .i64 k ∧ Hid (∃ g cap, v = .slice (some ⟨g, 0, none⟩) k cap) ∧ wr.ownsRow w.heap.size 5 1 v k (ys.map (Value.int .u8)) ∧ Hid (∀ y ∈ ys, 0 ≤ y ∧ y < 256) ∧ Cur wr a p n c xs ∧ w.grownBy wr (some a))
    (fun _ i _ => K - (intOf i).toNat)
  case atStart => exact ⟨0, [], Nat.zero_le _, rfl, ⟨_, _, rfl⟩, o1, (fun y hy => by cases hy), hc1, gg⟩
  case round =>
    clear o1 gg hc1 hb0
    obtain ⟨k, ys, hk, rfl, hform, hown, hys, hc, hgr⟩ := hrel
    have hsz := hgr.size
    by_cases hlt : k < K
    · go_wp2_with (fail)
      refine (l1Below_any a p n c xs 256 _ (by omega) (by omega) hc).mono ?_
      rintro e w2 ⟨y, rfl, hy0, hy1, hc2, g2⟩
      have o2 := owns_cur hown g2 ha
      have gg := grown_trans hgr g2
      have hsz2 := gg.size
      have hys2 : Hid (∀ z ∈ ys ++ [y], 0 ≤ z ∧ z < 256) := by
        intro z hz
        rcases List.mem_append.1 hz with h | h
        · exact hys.out z h
        · simp at h; subst h; exact ⟨hy0, hy1⟩
      clear hown hc hgr hys hform
      go_wp2_with (at_builtin; refine list_pushK hi hz0 hz1 hz2 (.tmp 13) (.tmp 17) 22 Try.underlying22 _ o2 (by omega) hsz2 (by rfl) (by rfl) (by rfl) (by rfl) ?_; intro g cap w3 ho3 hb3 hkk)
      go_roundw
      case rel => exact ⟨k + 1, ys ++ [y], by omega, by go_num, ⟨_, _, rfl⟩, ho3, hys2, hc2.below hb3 ha hcl, grown_below gg hb3⟩
      case measure => simp [intOf]; omega
    · obtain ⟨g, c', hv⟩ := hform.out
      clear hform
      subst hv
      go_wp2
      go_ret
      exact ⟨g, k, c', ys, rfl, by omega, .of hown, hys.out, hc, hgr⟩

theorem l1Max63 (w : World) : Calls Try.prog 45 #[.int .i64 63, .int .i64 0] w fun e w' => e = .returned (.int .i64 63) ∧ w' = w := by
  go_enter Try.func45, Try.ntmps45
  go_wp2
  go_ret
  exact ⟨rfl, rfl⟩

set_option maxHeartbeats 2000000 in
theorem l1DrawNear64 (a : Nat) (p : Option Addr) (n c : Nat) (xs : List Int) (w : World) (hcur : Cur w a p n c xs) :
    Calls Try.prog 46 #[.pointer (some ⟨a, 0, none⟩), .int .i64 64] w fun e w' => ∃ g k c' ys, e = .returned (.slice (some ⟨g, 0, none⟩) k c') ∧ k ≤ 1000 ∧ Own 5 w' w.heap.size w'.heap.size (.slice (some ⟨g, 0, none⟩) k c') k ys ∧ (∀ y ∈ ys, 0 ≤ y ∧ y < 256) ∧ Cur w' a p n c xs ∧ w.grownBy w' (some a) := by
  have C65 := fun w h => l1DrawJust_any a p n c xs 65 w (by omega) h
  have C63 := fun w h => l1DrawJust_any a p n c xs 63 w (by omega) h
  have C64 := fun w h => l1DrawJust_any a p n c xs 64 w (by omega) h
  go_enter Try.func46, Try.ntmps46
  go_wp2_with (fail)
  refine (l1Below_any a p n c xs 16 _ (by omega) (by omega) hcur).mono ?_
  rintro e w1 ⟨x, rfl, hx0, hx1, hc1, g1⟩
  by_cases h0 : x = 0
  · subst h0
    go_wp2_with (fail)
    refine (C65 _ hc1).mono ?_
    rintro e w2 ⟨g, k, c', ys, rfl, hk, o2, hys, hc2, g2⟩
    go_wp2_with (fail)
    go_ret
    exact ⟨g, k, c', ys, rfl, hk, o2.mono g1.size (Nat.le_refl _), hys, hc2, grown_trans g1 g2⟩
  · by_cases h1 : x = 1
    · subst h1
      go_wp2_with (fail)
      refine (l1Max63 _).mono ?_
      rintro e w1 ⟨rfl, rfl⟩
      go_wp2_with (fail)
      refine (C63 _ hc1).mono ?_
      rintro e w2 ⟨g, k, c', ys, rfl, hk, o2, hys, hc2, g2⟩
      go_wp2_with (fail)
      go_ret
      exact ⟨g, k, c', ys, rfl, hk, o2.mono g1.size (Nat.le_refl _), hys, hc2, grown_trans g1 g2⟩
    · by_cases h2 : x = 2
      · subst h2
        go_wp2
        go_ret
        exact ⟨_, 0, _, [], rfl, by omega, .of (World.ownsRow_made w1 #[] 0 g1.size (by unfold maxLen; omega) rfl), (fun y hy => by cases hy), hc1.below ((Below.refl w1.heap.size w1).alloc (Nat.le_refl _) _) hc1.lt hc1.code_lt, grown_trans g1 (World.grownBy_alloc w1 _ _)⟩
      · have d0 : (x == 0) = false := by simpa using h0
        have d1 : (x == 1) = false := by simpa using h1
        have d2 : (x == 2) = false := by simpa using h2
        go_wp2_with (fail)
        refine (C64 _ hc1).mono ?_
        rintro e w2 ⟨g, k, c', ys, rfl, hk, o2, hys, hc2, g2⟩
        go_wp2_with (fail)
        go_ret
        exact ⟨g, k, c', ys, rfl, hk, o2.mono g1.size (Nat.le_refl _), hys, hc2, grown_trans g1 g2⟩

end Go.Proofs.Ytoolfgbghhbjmac
