/-
  What the draws of chapter 2 hand over, whatever bytes they are drawn from: two ints, bytes and a yes or no, some ints and a yes or no; condition: at most 1048576 bytes, each of them one.
-/
import Derived.Test.YtafdcfeaedihiaeDraws
import Derived.Test.YtafdcfeaedihiaeInfoI
namespace Go.Proofs.Ytafdcfeaedihiae
open Go.RowKit

theorem l2DrawNum_any (a : Nat) (p : Option Addr) (n c : Nat) (xs : List Int) (w : World) (hcur : Cur w a p n c xs) :
    Calls Try.prog 38 #[.pointer (some ⟨a, 0, none⟩)] w fun e w' => ∃ z : Int, e = .returned (.int .i64 z) ∧ Cur w' a p n c xs ∧ w.grownBy w' (some a) := by
  have hb0 : Below w.heap.size w (w.alloc (.cells (([0, 1, 305419896, 4294967295, 4294967296, -1, 9223372036854775807] : List Int).map (Value.int .i64)).toArray 3)) := (Below.refl _ _).alloc (Nat.le_refl _) _
  have ha := hcur.lt
  go_enter Try.func38, Try.ntmps38
  go_wp2_with (fail)
  refine (l1PickInt_any a p n c xs w.heap.size 7 [0, 1, 305419896, 4294967295, 4294967296, -1, 9223372036854775807] _ (by omega) (by omega) rfl (lit_ints w [0, 1, 305419896, 4294967295, 4294967296, -1, 9223372036854775807] 3) (by omega) (hcur.below hb0 ha hcur.code_lt)).mono ?_
  rintro e w2 ⟨z, hz, rfl, hc2, g2⟩
  have gg : w.grownBy w2 (some a) := grown_trans (World.grownBy_alloc w _ _) g2
  clear hz hb0 g2
  go_wp2_with (fail)
  go_ret
  exact ⟨z, rfl, hc2, gg⟩

theorem drawWord_any (p : Option Addr) (n c : Nat) (xs : List Int) (w : World) (hn : n ≤ 1048576) (hx : xs.length = n) (hb : BytesIn w p n xs) (hr : ∀ x ∈ xs, 0 ≤ x ∧ x < 256) :
    Calls Try.prog 6 #[.slice p n c] w fun e w' => ∃ z : Int, e = .returned (.int .i64 z) ∧ Below w.heap.size w w' := by
  go_enter Try.func6, Try.ntmps6
  go_wp2_with (fail)
  refine (l1New_any p n c xs _ hn hx hb hr).mono ?_
  rintro e w1 ⟨a, rfl, ha, ha1, hc1, b1⟩
  go_wp2_with (fail)
  refine (l2DrawNum_any a p n c xs _ hc1).mono ?_
  rintro e w2 ⟨z, rfl, hc2, g2⟩
  have b2 := below_cur b1 g2 ha
  go_wp2_with (fail)
  go_ret
  exact ⟨z, rfl, b2⟩

theorem drawTurn_any (p : Option Addr) (n c : Nat) (xs : List Int) (w : World) (hn : n ≤ 1048576) (hx : xs.length = n) (hb : BytesIn w p n xs) (hr : ∀ x ∈ xs, 0 ≤ x ∧ x < 256) :
    Calls Try.prog 7 #[.slice p n c] w fun e w' => ∃ z k : Int, e = .returned (.tuple #[.int .i64 z, .int .i64 k]) ∧ Below w.heap.size w w' := by
  go_enter Try.func7, Try.ntmps7
  go_wp2_with (fail)
  refine (l1New_any p n c xs _ hn hx hb hr).mono ?_
  rintro e w1 ⟨a, rfl, ha, ha1, hc1, b1⟩
  go_wp2_with (fail)
  refine (l2DrawNum_any a p n c xs _ hc1).mono ?_
  rintro e w2 ⟨z, rfl, hc2, g2⟩
  have b2 := below_cur b1 g2 ha
  go_wp2_with (fail)
  have hb2 : Below w2.heap.size w2 (w2.alloc (.cells (([0, 1, 7, 16, 31, 32, -1] : List Int).map (Value.int .i64)).toArray 3)) := (Below.refl _ _).alloc (Nat.le_refl _) _
  refine (l1PickInt_any a p n c xs w2.heap.size 7 [0, 1, 7, 16, 31, 32, -1] _ (by omega) (by omega) rfl (lit_ints w2 [0, 1, 7, 16, 31, 32, -1] 3) (by have := hc2.lt; omega) (hc2.below hb2 hc2.lt hc2.code_lt)).mono ?_
  rintro e w3 ⟨m, hm, rfl, hc3, g3⟩
  have b3 := below_cur (below_on b2 hb2) g3 ha
  clear hb2 hm
  go_wp2_with (fail)
  go_ret2
  exact ⟨z, m, rfl, b3⟩

theorem drawWords_any (p : Option Addr) (n c : Nat) (xs : List Int) (w : World) (hn : n ≤ 1048576) (hx : xs.length = n) (hb : BytesIn w p n xs) (hr : ∀ x ∈ xs, 0 ≤ x ∧ x < 256) :
    Calls Try.prog 8 #[.slice p n c] w fun e w' => ∃ g k c' ys great, e = .returned (.tuple #[.slice (some ⟨g, 0, none⟩) k c', .bool great]) ∧ k ≤ 20 ∧ Own 5 w' w.heap.size w'.heap.size (.slice (some ⟨g, 0, none⟩) k c') k ys ∧ (∀ y ∈ ys, 0 ≤ y ∧ y < 256) ∧ Below w.heap.size w w' := by
  go_enter Try.func8, Try.ntmps8
  go_wp2_with (fail)
  refine (l1New_any p n c xs _ hn hx hb hr).mono ?_
  rintro e w1 ⟨a, rfl, ha, ha1, hc1, b1⟩
  have z1 := b1.size
  go_wp2_with (fail)
  refine (l1DrawBytes_any a p n c xs 20 _ (by omega) (by omega) hc1).mono ?_
  rintro e w2 ⟨g, k, c', ys, rfl, hk, o2, hys, hc2, g2⟩
  have b2 := below_cur b1 g2 ha
  have z2 := g2.size
  have hys' : Hid (∀ y ∈ ys, 0 ≤ y ∧ y < 256) := hys
  clear hys
  go_wp2_with (fail)
  refine (l1Once_any a p n c xs 2 _ (by omega) (by omega) hc2).mono ?_
  rintro e w3 ⟨b, rfl, hc3, g3⟩
  have b3 := below_cur b2 g3 ha
  have z3 := g3.size
  have o3 := (o2.cur g3 (by omega)).mono (show w.heap.size ≤ w1.heap.size by omega) (show w2.heap.size ≤ w3.heap.size by omega)
  clear o2
  go_wp2_with (fail)
  go_ret2
  exact ⟨g, k, c', ys, b, rfl, by omega, o3, hys'.out, b3⟩

set_option maxHeartbeats 2000000 in
theorem drawWordBytes_any (p : Option Addr) (n c : Nat) (xs : List Int) (w : World) (hn : n ≤ 1048576) (hx : xs.length = n) (hb : BytesIn w p n xs) (hr : ∀ x ∈ xs, 0 ≤ x ∧ x < 256) :
    Calls Try.prog 9 #[.slice p n c] w fun e w' => ∃ g k c' ys too, e = .returned (.tuple #[.slice (some ⟨g, 0, none⟩) k c', .bool too]) ∧ k ≤ 5 ∧ OwnI 3 w' w.heap.size w'.heap.size (.slice (some ⟨g, 0, none⟩) k c') k ys ∧ Below w.heap.size w w' := by
  obtain ⟨i0, hi, hz0, hz1, hz2⟩ := info_parts infoInt
  go_enter Try.func9, Try.ntmps9
  go_wp2_with (fail)
  refine (l1New_any p n c xs _ hn hx hb hr).mono ?_
  rintro e w1 ⟨a, rfl, ha, ha1, hc1, b1⟩
  have z1 := b1.size
  have hcl := hc1.code_lt
  have hb0 : Below w1.heap.size w1 (w1.alloc (.cells #[] 3)) := (Below.refl _ _).alloc (Nat.le_refl _) _
  have o1 : (w1.alloc (.cells #[] 3)).ownsRow w1.heap.size 3 1 (.slice (some ⟨w1.heap.size, 0, none⟩) 0 0) 0 (([] : List Int).map (Value.int .i64)) := World.ownsRow_made w1 #[] 0 (Nat.le_refl _) (by unfold maxLen; omega) rfl
  have hc0 := hc1.below hb0 ha1 hcl
  have g0 : w1.grownBy (w1.alloc (.cells #[] 3)) (some a) := World.grownBy_alloc w1 _ _
  clear hb0 hc1 hb hr hx
  go_wp2_with (fail)
  go_loopw [5, 6] (fun v i wr => ∃ (k : Nat) (ys : List Int), k ≤ 5 ∧ i = .int .i64 k ∧ Hid (∃ g cap, v = .slice (some ⟨g, 0, none⟩) k cap) ∧ wr.ownsRow w1.heap.size 3 1 v k (ys.map (Value.int .i64)) ∧ Cur wr a p n c xs ∧ w1.grownBy wr (some a))
    (fun _ i _ => 6 - (intOf i).toNat)
  case atStart => exact ⟨0, [], Nat.zero_le _, rfl, ⟨_, _, rfl⟩, o1, hc0, g0⟩
  case round =>
    clear o1 g0 hc0
    obtain ⟨k, ys, hk, rfl, hform, hown, hc, hgr⟩ := hrel
    have hsz := hgr.size
    go_wp2_with (fail)
    refine (l1Below_any a p n c xs 5 _ (by omega) (by omega) hc).mono ?_
    rintro e w2 ⟨x, rfl, hx0, hx1, hc2, g2⟩
    have o2 := owns_cur hown g2 ha1
    have gg := grown_trans hgr g2
    have hsz2 := gg.size
    clear hown hc hgr
    by_cases hlt : (k : Int) < x
    · go_wp2_with (fail)
      refine (l2DrawNum_any a p n c xs _ hc2).mono ?_
      rintro e w3 ⟨z, rfl, hc3, g3⟩
      have o3 := owns_cur o2 g3 ha1
      have gg3 := grown_trans gg g3
      have hsz3 := gg3.size
      clear o2 gg hc2 g2 g3 hform
      go_wp2_with (at_builtin; refine list_pushKI hi hz0 hz1 hz2 (.tmp 16) (.tmp 19) 29 Try.underlying29 _ o3 (by omega) hsz3 (by rfl) (by rfl) (by rfl) (by rfl) ?_; intro g cap w4 ho4 hb4 hkk)
      go_roundw
      case rel => exact ⟨k + 1, ys ++ [z], by omega, by go_num, ⟨_, _, rfl⟩, ho4, hc3.below hb4 ha1 hcl, grown_below gg3 hb4⟩
      case measure => simp [intOf]; omega
    · obtain ⟨g, c', hv⟩ := hform.out
      clear hform
      subst hv
      go_wp2_with (fail)
      refine (l1Once_any a p n c xs 2 _ (by omega) (by omega) hc2).mono ?_
      rintro e w3 ⟨b, rfl, hc3, g3⟩
      have o3 := owns_cur o2 g3 ha1
      have gg3 := grown_trans gg g3
      clear o2 gg g2 g3
      go_wp2_with (fail)
      go_ret2
      exact ⟨g, k, c', ys, b, rfl, hk, .of (owns_mono o3 z1), below_cur b1 gg3 ha⟩

end Go.Proofs.Ytafdcfeaedihiae
