/-
  What the draws of chapter 9's laws answer: some bytes, most often 32 of them.
-/
import Derived.Test.YtghoibggmddkmacDraw8
namespace Go.Proofs.Ytghoibggmddkmac
open Go.RowKit

set_option maxRecDepth 100000 in
set_option maxHeartbeats 2000000 in
theorem dPoint (p : Option Addr) (n c : Nat) (xs : List Int) (w : World) (hn : n ≤ 1048576) (hx : xs.length = n) (hb : BytesIn w p n xs) (hr : ∀ x ∈ xs, 0 ≤ x ∧ x < 256) :
    Calls Try.prog 29 #[.slice p n c] w fun e w' => ∃ g k c' ys g2 k2 c2 zs, e = .returned (.tuple #[.slice (some ⟨g, 0, none⟩) k c', .slice (some ⟨g2, 0, none⟩) k2 c2]) ∧ (k ≤ 1000 ∧ k2 ≤ 1000 ∧ (∀ y ∈ ys, 0 ≤ y ∧ y < 256) ∧ ∀ y ∈ zs, 0 ≤ y ∧ y < 256) ∧ Own 5 w' w.heap.size w'.heap.size (.slice (some ⟨g, 0, none⟩) k c') k ys ∧ Own 5 w' w.heap.size w'.heap.size (.slice (some ⟨g2, 0, none⟩) k2 c2) k2 zs ∧ Below w.heap.size w w' := by
  go_enter Try.func29, Try.ntmps29
  go_wp2_with (fail)
  refine (l1New_any p n c xs _ hn hx hb hr).mono ?_
  rintro e w1 ⟨a, rfl, ha, ha1, hc1, b1⟩
  have CN := l1DrawNear_any a p n c xs 32 w1 (by omega) (by omega) hc1
  go_wp2_with (fail)
  refine CN.mono ?_
  rintro e w2 ⟨g, k, c', ys, rfl, hk, ho, hys, hc2, g2⟩
  have bel2 := below_cur b1 g2 ha
  clear CN
  go_wp2_with (fail)
  refine (l8DrawSide_any a p n c xs _ hc2).mono ?_
  rintro e w3 ⟨g', k', c2, rfl, hk', ⟨zs, hzs, ho'⟩, hc3, g3⟩
  have bel3 := below_cur bel2 g3 ha
  have oo := owns_cur ho.1 g3 (by have := hc1.lt; omega)
  go_wp2_with (fail)
  go_ret2
  exact ⟨g, k, c', ys, g', k', c2, zs, rfl, ⟨hk, hk', hys, hzs⟩, .of (owns_mono oo b1.size), .of (owns_mono ho' bel2.size), bel3⟩

set_option maxRecDepth 100000 in
set_option maxHeartbeats 2000000 in
theorem dClamp (p : Option Addr) (n c : Nat) (xs : List Int) (w : World) (hn : n ≤ 1048576) (hx : xs.length = n) (hb : BytesIn w p n xs) (hr : ∀ x ∈ xs, 0 ≤ x ∧ x < 256) :
    Calls Try.prog 35 #[.slice p n c] w fun e w' => ∃ g k c' ys, e = .returned (.slice (some ⟨g, 0, none⟩) k c') ∧ (k ≤ 1000 ∧ ∀ y ∈ ys, 0 ≤ y ∧ y < 256) ∧ Own 5 w' w.heap.size w'.heap.size (.slice (some ⟨g, 0, none⟩) k c') k ys ∧ Below w.heap.size w w' := by
  go_enter Try.func35, Try.ntmps35
  go_wp2_with (fail)
  refine (l1New_any p n c xs _ hn hx hb hr).mono ?_
  rintro e w1 ⟨a, rfl, ha, ha1, hc1, b1⟩
  have CN := l1DrawNear_any a p n c xs 32 w1 (by omega) (by omega) hc1
  go_wp2_with (fail)
  refine CN.mono ?_
  rintro e w2 ⟨g, k, c', ys, rfl, hk, ho, hys, hc2, g2⟩
  have bel2 := below_cur b1 g2 ha
  go_wp2_with (fail)
  go_ret
  exact ⟨g, k, c', ys, rfl, ⟨hk, hys⟩, .of (owns_mono ho.1 b1.size), bel2⟩

set_option maxRecDepth 100000 in
set_option maxHeartbeats 2000000 in
theorem dPublic (p : Option Addr) (n c : Nat) (xs : List Int) (w : World) (hn : n ≤ 1048576) (hx : xs.length = n) (hb : BytesIn w p n xs) (hr : ∀ x ∈ xs, 0 ≤ x ∧ x < 256) :
    Calls Try.prog 36 #[.slice p n c] w fun e w' => ∃ g k c' ys, e = .returned (.slice (some ⟨g, 0, none⟩) k c') ∧ (k ≤ 1000 ∧ ∀ y ∈ ys, 0 ≤ y ∧ y < 256) ∧ Own 5 w' w.heap.size w'.heap.size (.slice (some ⟨g, 0, none⟩) k c') k ys ∧ Below w.heap.size w w' := by
  go_enter Try.func36, Try.ntmps36
  go_wp2_with (fail)
  refine (l1New_any p n c xs _ hn hx hb hr).mono ?_
  rintro e w1 ⟨a, rfl, ha, ha1, hc1, b1⟩
  have CN := l1DrawNear_any a p n c xs 32 w1 (by omega) (by omega) hc1
  go_wp2_with (fail)
  refine CN.mono ?_
  rintro e w2 ⟨g, k, c', ys, rfl, hk, ho, hys, hc2, g2⟩
  have bel2 := below_cur b1 g2 ha
  go_wp2_with (fail)
  go_ret
  exact ⟨g, k, c', ys, rfl, ⟨hk, hys⟩, .of (owns_mono ho.1 b1.size), bel2⟩

end Go.Proofs.Ytghoibggmddkmac
