/-
  What chapter 21's draws give, whatever the code: bytes, texts and numbers in their bounds; condition: a code of at most 1048576 bytes.
-/
import Derived.Test.YtkkaipeklbhliaaDraws
import Derived.Test.YtkkaipeklbhliaaSpecSixes
import Derived.Deep.RegionHeld3
namespace Go.Proofs.Ytkkaipeklbhliaa
open Go.RowKit
set_option maxRecDepth 100000

set_option maxHeartbeats 1000000 in
theorem drawSixes_any (p : Option Addr) (n c : Nat) (xs : List Int) (w : World) (hn : n ≤ 1048576) (hx : xs.length = n) (hb : BytesIn w p n xs) (hr : ∀ x ∈ xs, 0 ≤ x ∧ x < 256) :
    Calls Try.prog 18 #[.slice p n c] w fun e w' => ∃ g k c' ys, e = .returned (.slice (some ⟨g, 0, none⟩) k c') ∧ k ≤ 20 ∧ Own 5 w' w.heap.size w'.heap.size (.slice (some ⟨g, 0, none⟩) k c') k ys ∧ (∀ y ∈ ys, 0 ≤ y ∧ y < 256) ∧ Below w.heap.size w w' := by
  go_enter Try.func18, Try.ntmps18
  go_wp2_with (fail)
  refine (l1New_any p n c xs _ hn hx hb hr).mono ?_
  rintro e w1 ⟨a, rfl, ha, ha1, hc1, b1⟩
  go_wp2_with (fail)
  refine (l1DrawBytes_any a p n c xs 20 _ (by omega) (by omega) hc1).mono ?_
  rintro e w2 ⟨g, k, c', ys, rfl, hk, o2, hys, hc2, g2⟩
  go_wp2_with (fail)
  go_ret
  exact ⟨g, k, c', ys, rfl, by omega, o2.mono b1.size (Nat.le_refl _), hys, below_cur b1 g2 ha⟩

set_option maxHeartbeats 1000000 in
theorem drawSixesLen_any (p : Option Addr) (n c : Nat) (xs : List Int) (w : World) (hn : n ≤ 1048576) (hx : xs.length = n) (hb : BytesIn w p n xs) (hr : ∀ x ∈ xs, 0 ≤ x ∧ x < 256) :
    Calls Try.prog 20 #[.slice p n c] w fun e w' => ∃ m : Int, e = .returned (.int .i64 m) ∧ (-1 ≤ m ∧ m ≤ 4001) ∧ Below w.heap.size w w' := by
  go_enter Try.func20, Try.ntmps20
  go_wp2_with (fail)
  refine (l1New_any p n c xs _ hn hx hb hr).mono ?_
  rintro e w1 ⟨a, rfl, ha, ha1, hc1, b1⟩
  go_wp2_with (fail)
  have hb0 : Below w1.heap.size w1 (w1.alloc (.cells (([0, 1, 2, 3, 4, 100, 4000, 4001, -1] : List Int).map (Value.int .i64)).toArray 3)) := (Below.refl _ _).alloc (Nat.le_refl _) _
  refine (l1PickInt_any a p n c xs w1.heap.size 9 [0, 1, 2, 3, 4, 100, 4000, 4001, -1] _ (by omega) (by omega) rfl (lit_ints w1 [0, 1, 2, 3, 4, 100, 4000, 4001, -1] 3) (by omega) (hc1.below hb0 ha1 hc1.code_lt)).mono ?_
  rintro e w2 ⟨m, hm, rfl, hc2, g2⟩
  have b2 := below_cur (below_on b1 hb0) g2 ha
  go_wp2_with (fail)
  go_ret
  refine ⟨m, rfl, ?_, b2⟩
  simp only [List.mem_cons, List.not_mem_nil, or_false] at hm
  omega

set_option maxHeartbeats 2000000 in
theorem drawUnsixes_any (p : Option Addr) (n c : Nat) (xs : List Int) (w : World) (hn : n ≤ 1048576) (hx : xs.length = n) (hb : BytesIn w p n xs) (hr : ∀ x ∈ xs, 0 ≤ x ∧ x < 256) :
    Calls Try.prog 19 #[.slice p n c] w fun e w' => ∃ s : ByteArray, e = .returned (.string s) ∧ s.size ≤ 100 ∧ Below w.heap.size w w' := by
  go_enter Try.func19, Try.ntmps19
  go_wp2_with (fail)
  refine (l1New_any p n c xs _ hn hx hb hr).mono ?_
  rintro e w1 ⟨a, rfl, ha, ha1, hc1, b1⟩
  go_wp2_with (fail)
  refine (l1DrawBytes_any a p n c xs 10 _ (by omega) (by omega) hc1).mono ?_
  rintro e w2 ⟨g, k, c', ys, rfl, hk, o2, hys, hc2, g2⟩
  have b2 := below_cur b1 g2 ha
  go_wp2_with (fail)
  refine (specSixes_any _ k c' ys _ (by omega) o2.len o2.bytes hys).mono ?_
  rintro e w3 ⟨rfl, b3⟩
  have hc3 := hc2.below b3 hc2.lt hc2.code_lt
  have b3' := below_on b2 b3
  have hlen : Hid ((strOfNums (sixL ys)).size ≤ 20) := by
    show (strOfNums (sixL ys)).size ≤ 20
    have h0 := strOfNums_size (sixL ys)
    have h1 : (sixL ys).length = sixN ys.length := sixT_length _ _
    have h2 := o2.len
    unfold sixN at h1
    omega
  obtain ⟨S, hS⟩ : ∃ S, S = strOfNums (sixL ys) := ⟨_, rfl⟩
  rw [← hS] at hlen ⊢
  clear hS hc2 o2
  have hz := hlen.out
  go_wp2_with (fail)
  refine (l1Below_any a p n c xs ((S.size : Int) + 1) _ (by omega) (by omega) hc3).mono ?_
  rintro e w4 ⟨x, rfl, hx0, hx1, hc4, g4⟩
  have b4 := below_cur b3' g4 ha
  go_wp2_with (fail)
  refine (l1Below_any a p n c xs 5 _ (by omega) (by omega) hc4).mono ?_
  rintro e w5 ⟨y, rfl, hy0, hy1, hc5, g5⟩
  have b5 := below_cur b4 g5 ha
  have hS := hlen.out
  have h3 : y = 0 ∨ y = 1 ∨ 1 < y := by omega
  rcases h3 with rfl | rfl | h3
  · go_wp2_with (fail)
    go_ret
    exact ⟨_, rfl, by rw [ByteArray.size_extract]; omega, b5⟩
  · obtain ⟨A, hA⟩ : ∃ A, S.extract 0 x.toNat = A := ⟨_, rfl⟩
    obtain ⟨B, hB⟩ : ∃ B, S.extract x.toNat S.size = B := ⟨_, rfl⟩
    have hA2 : A.size ≤ 20 := by rw [← hA, ByteArray.size_extract]; omega
    have hB2 : B.size ≤ 20 := by rw [← hB, ByteArray.size_extract]; omega
    have hxS : x ≤ (S.size : Int) := by omega
    have bd : Below w5.heap.size w5 w5.drew := (Below.refl _ _).drew
    have cd := hc5.below bd hc5.lt hc5.code_lt
    have hb0 : Below w5.heap.size w5 (w5.drew.alloc (.cells (([⟨#[65]⟩, ⟨#[95]⟩, ⟨#[61]⟩, ⟨#[43]⟩, ⟨#[66]⟩] : List ByteArray).map Value.string).toArray 9)) := bd.alloc bd.size _
    have hcb := hc5.below hb0 hc5.lt hc5.code_lt
    have hlt5 := hc5.lt
    go_wp2_with (fail)
    go_region_held3 (fun _ => True) (trivial) (first | (go_at_call 33; refine (l1Pick_any a p n c xs w5.heap.size 5 [⟨#[65]⟩, ⟨#[95]⟩, ⟨#[61]⟩, ⟨#[43]⟩, ⟨#[66]⟩] _ (by omega) (by omega) rfl (lit_strs w5.drew [⟨#[65]⟩, ⟨#[95]⟩, ⟨#[61]⟩, ⟨#[43]⟩, ⟨#[66]⟩] 9) (by omega) hcb).mono ?_; rintro e w6 ⟨t, ht, rfl, hc6, g6⟩; have hT : t.size ≤ 2 := by { simp only [List.mem_cons, List.not_mem_nil, or_false] at ht; rcases ht with rfl | rfl | rfl | rfl | rfl <;> decide }; have f1 := fun X => run_string_add_sum (P := Try.prog) X A t (by omega); have f2 := fun X => run_string_add_sum (P := Try.prog) X (A ++ t) B (by rw [ByteArray.size_append]; omega)))
    all_goals
      have b6 := below_cur (below_on b5 hb0) g6 ha
      go_wp2_with (fail)
      go_ret
      exact ⟨_, rfl, by rw [ByteArray.size_append, ByteArray.size_append]; omega, b6⟩
  · have h4 : (y == 0) = false := by simp; omega
    have h5 : (y == 1) = false := by simp; omega
    go_wp2_with (fail)
    go_ret
    exact ⟨S, rfl, by omega, b5⟩

end Go.Proofs.Ytkkaipeklbhliaa
