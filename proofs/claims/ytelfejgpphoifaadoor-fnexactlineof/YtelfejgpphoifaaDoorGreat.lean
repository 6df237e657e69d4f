/-
  What spec.Great and impl.Great answer at every argument; no condition but that n is an int.
-/
import Derived.Test.YtelfejgpphoifaaDoorLittle
import Derived.Test.YtelfejgpphoifaaDoorRev
namespace Go.Proofs.YtelfejgpphoifaaDoor
open Go.RowKit
set_option maxRecDepth 100000

theorem revL_step (xs : List Int) (n k : Nat) (u : Int) (hx : xs.length = n) (hk : k < n) (hu : u = xs.getD (n - 1 - k) 0) : xs.reverse.take k ++ [u] = xs.reverse.take (k + 1) := by
  subst hu
  rw [List.take_succ_eq_append_getElem (by simp; omega), List.getElem_reverse]
  simp [List.getElem?_eq_getElem (show n - 1 - k < xs.length by omega), hx]

set_option maxHeartbeats 2000000 in
theorem specGreat_any (n many : Int) (w : World) (h63 : n ≤ 9223372036854775807) :
    Calls Tryd.prog 22 #[.int .i64 n, .int .i64 many] w fun e w' => ∃ p c, e = .returned (.slice p (fitN n many) c) ∧ Own 5 w' w.heap.size w'.heap.size (.slice p (fitN n many) c) (fitN n many) (fitL n many).reverse ∧ Below w.heap.size w w' := by
  obtain ⟨i0, hi, hz0, hz1, hz2⟩ := info_parts infoByte
  have hle := fitN_le n many
  obtain ⟨N, hN⟩ : ∃ N, N = fitN n many := ⟨_, rfl⟩
  obtain ⟨L, hL⟩ : ∃ L, L = fitL n many := ⟨_, rfl⟩
  have C := fun w => specLittle_any n many w h63
  rw [← hN] at hle ⊢
  rw [← hL]
  simp only [← hN, ← hL] at C
  clear hN hL
  go_enter Tryd.func22, Tryd.ntmps22
  go_wp2_with (fail)
  refine (C _).mono ?_
  rintro e w1 ⟨p1, c1, rfl, r1, b1⟩
  have hz1' := b1.size
  have hx := r1.len
  have hin := r1.bytes
  go_wp2
  go_loopw [6, 7] (fun v i wr => ∃ k : Nat, k ≤ N ∧ i = .int .i64 ((N : Int) - 1 - k) ∧ wr.ownsRow w1.heap.size 5 1 v k ((L.reverse.take k).map (Value.int .u8)) ∧ Below w1.heap.size w1 wr)
    (fun _ i _ => (intOf i + 1).toNat)
  case atStart => exact ⟨0, Nat.zero_le _, by go_num, World.ownsRow_made w1 #[] 0 (Nat.le_refl _) (by unfold maxLen; omega) rfl, (Below.refl _ _).alloc (Nat.le_refl _) _⟩
  case round =>
    obtain ⟨k, hk, rfl, hown, hbel⟩ := hrel
    have hsz := hbel.size
    by_cases hlt : k < N
    · obtain ⟨j, hj⟩ : ∃ j : Nat, j + k + 1 = N := ⟨N - 1 - k, by omega⟩
      have hij : ((N : Int) - 1 - (k : Int)) = (j : Int) := by omega
      rw [hij]
      clear hij
      obtain ⟨b, o, rfl, hc⟩ := hin (by omega)
      obtain ⟨u, hu⟩ : ∃ u, u = L.getD j 0 := ⟨_, rfl⟩
      have hcx : wr.cell? ⟨b, o + j, none⟩ = some (.int .u8 u) := by
        rw [hbel.cell (p := ⟨b, o + j, none⟩) (World.block_lt_of_cell? w1 ⟨b, o + j, none⟩ (hc j (by omega))), hu]
        exact hc j (by omega)
      have HN : Hid (L.reverse.take k ++ [u] = L.reverse.take (k + 1)) := revL_step L N k u hx hlt (by rw [hu, show N - 1 - k = j by omega])
      clear hc hin hu hx
      go_wp2_with (at_builtin; refine list_push hi hz0 hz1 hz2 (.tmp 19) (.tmp 24) 22 Tryd.underlying22 _ hown (by omega) (by omega) (by rfl) (by rfl) (by rfl) (by rfl) ?_; intro g cap w2 ho1 hb1; rw [HN.out] at ho1)
      go_roundw
      case rel => exact ⟨k + 1, by omega, by go_num, ho1, hbel.trans hb1⟩
      case measure => simp [intOf]
    · obtain rfl : k = N := by omega
      have c0 : ¬ (0 : Int) ≤ (k : Int) - 1 - (k : Int) := by omega
      rw [List.take_of_length_le (by simp; omega)] at hown
      obtain ⟨p', c', hv⟩ := owns_form hown
      subst hv
      go_wp2
      go_ret
      exact ⟨_, _, rfl, .of (owns_mono hown hz1'), below_on b1 hbel⟩

set_option maxHeartbeats 2000000 in
theorem implGreat_any (n many : Int) (w : World) (h63 : n ≤ 9223372036854775807) :
    Calls Tryd.prog 43 #[.int .i64 n, .int .i64 many] w fun e w' => ∃ p c, e = .returned (.slice p (fitN n many) c) ∧ Own 5 w' w.heap.size w'.heap.size (.slice p (fitN n many) c) (fitN n many) (fitL n many).reverse ∧ Below w.heap.size w w' := by
  have hle := fitN_le n many
  go_enter Tryd.func43, Tryd.ntmps43
  go_wp2_with (fail)
  refine (implLittle_any n many _ h63).mono ?_
  rintro e w1 ⟨p1, c1, rfl, r1, b1⟩
  go_wp2_with (fail)
  refine (reverse_any _ _ p1 (fitN n many) c1 (fitL n many) _ (by omega) r1).mono ?_
  rintro e w2 ⟨rfl, r2, g2⟩
  go_wp2_with (fail)
  go_ret
  exact ⟨_, _, rfl, .of r2.1, b1.grown g2 b1.size fun k hk => (r1.1.lt k hk).1⟩

end Go.Proofs.YtelfejgpphoifaaDoor
