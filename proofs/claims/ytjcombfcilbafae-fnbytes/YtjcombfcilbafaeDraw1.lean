/-
  What chapter 1's draws give, whatever the code: bytes, texts and numbers in their bounds; condition: a code of at most 1048576 bytes.
-/
import Derived.Test.YtjcombfcilbafaeDraws
import Derived.Test.YtjcombfcilbafaeHex
namespace Go.Proofs.Ytjcombfcilbafae
open Go.RowKit

set_option maxHeartbeats 1000000 in
theorem drawHex_any (p : Option Addr) (n c : Nat) (xs : List Int) (w : World) (hn : n ≤ 1048576) (hx : xs.length = n) (hb : BytesIn w p n xs) (hr : ∀ x ∈ xs, 0 ≤ x ∧ x < 256) :
    Calls Try.prog 5 #[.slice p n c] w fun e w' => ∃ g k c' ys, e = .returned (.slice (some ⟨g, 0, none⟩) k c') ∧ k ≤ 20 ∧ Own 5 w' w.heap.size w'.heap.size (.slice (some ⟨g, 0, none⟩) k c') k ys ∧ (∀ y ∈ ys, 0 ≤ y ∧ y < 256) ∧ Below w.heap.size w w' := by
  go_enter Try.func5, Try.ntmps5
  go_wp2_with (fail)
  refine (l1New_any p n c xs _ hn hx hb hr).mono ?_
  rintro e w1 ⟨a, rfl, ha, ha1, hc1, b1⟩
  go_wp2_with (fail)
  refine (l1DrawBytes_any a p n c xs 20 _ (by omega) (by omega) hc1).mono ?_
  rintro e w2 ⟨g, k, c', ys, rfl, hk, o2, hys, hc2, g2⟩
  go_wp2_with (fail)
  go_ret
  exact ⟨g, k, c', ys, rfl, by omega, o2.mono b1.size (Nat.le_refl _), hys, below_cur b1 g2 ha⟩

set_option maxHeartbeats 2000000 in
theorem drawTwo_any (p : Option Addr) (n c : Nat) (xs : List Int) (w : World) (hn : n ≤ 1048576) (hx : xs.length = n) (hb : BytesIn w p n xs) (hr : ∀ x ∈ xs, 0 ≤ x ∧ x < 256) :
    Calls Try.prog 29 #[.slice p n c] w fun e w' => ∃ p1 k1 c1 ys p2 k2 c2 zs, e = .returned (.tuple #[.slice p1 k1 c1, .slice p2 k2 c2]) ∧ k1 ≤ 12 ∧ k2 ≤ 12 ∧
      Own 5 w' w.heap.size w'.heap.size (.slice p1 k1 c1) k1 ys ∧ (∀ y ∈ ys, 0 ≤ y ∧ y < 256) ∧ Own 5 w' w.heap.size w'.heap.size (.slice p2 k2 c2) k2 zs ∧ (∀ y ∈ zs, 0 ≤ y ∧ y < 256) ∧ Below w.heap.size w w' := by
  obtain ⟨i0, hi, hz0, hz1, hz2⟩ := info_parts infoByte
  go_enter Try.func29, Try.ntmps29
  go_wp2_with (fail)
  refine (l1New_any p n c xs _ hn hx hb hr).mono ?_
  rintro e w1 ⟨a, rfl, ha, ha1, hc1, b1⟩
  go_wp2_with (fail)
  refine (l1DrawBytes_any a p n c xs 12 _ (by omega) (by omega) hc1).mono ?_
  rintro e w2 ⟨g, k, c1, ys, rfl, hk, o2, hys, hc2, g2⟩
  have b2 := below_cur b1 g2 ha
  have z2 := g2.size
  go_wp2_with (fail)
  refine (l1Once_any a p n c xs 2 _ (by omega) (by omega) hc2).mono ?_
  rintro e w3 ⟨b, rfl, hc3, g3⟩
  have b3 := below_cur b2 g3 ha
  have z3 := g3.size
  have o3 := o2.cur g3 ha1
  clear hc1 hc2 g2 g3 o2
  cases b
  · go_wp2_with (fail)
    refine (l1DrawBytes_any a p n c xs 12 _ (by omega) (by omega) hc3).mono ?_
    rintro e w4 ⟨g', k', c', zs, rfl, hk', o4, hzs, hc4, g4⟩
    have z4 := g4.size
    have o3' := o3.cur g4 ha1
    have b4 := below_cur b3 g4 ha
    have z1 := b1.size
    go_wp2_with (fail)
    go_ret2
    exact ⟨_, k, c1, ys, _, k', c', zs, rfl, by omega, by omega, o3'.mono (by omega) (by omega), hys, o4.mono (by omega) (by omega), hzs, b4⟩
  · have z1 := b1.size
    have hcells := o3.bytes
    have hl := o3.len
    have HL : ys.length = k * 1 := by omega
    have hnews := (o3.1.alloc (.cells #[] 5)).cells (g := g) rfl
    have hmade := World.ownsRow_made (base := w3.heap.size) (e := 5) (size := 1) w3 #[] 0 (Nat.le_refl _) (by unfold maxLen; omega) rfl
    have hf1 : 0 + k ≤ maxLen := by unfold maxLen; omega
    have hf2 : (0 + k) * 1 ≤ 140737488355328 := by omega
    clear hcells
    go_wp2_with (at_builtin; refine wpList_append_own _ rfl (.tmp 13) (.tmp 14) 22 rfl w3.heap.size 5 i0 (.int .u8 0) 1 1 Try.underlying22 hi hz0 hz1 hz2 rfl (by decide) _ 0 [] rfl hmade ⟨g, 0, none⟩ k c1 (ys.map (Value.int .u8)) rfl (by simpa using HL) hnews (ints_oneCell _ _) hf1 hf2 (by simp) ?_; intro v' w4 ho4 hg4 _)
    have ho5 : w4.ownsRow w3.heap.size 5 1 v' k (ys.map (Value.int .u8)) := by simpa using ho4
    have b4 : Below w3.heap.size w3 w4 := ((Below.refl _ _).alloc (Nat.le_refl _) _).grown hg4 (by simp) fun j hj => (hmade.lt j hj).1
    have o3' := o3.on b4
    have z4 := b4.size
    obtain ⟨p', c', hv⟩ := owns_form ho5
    subst hv
    clear ho4 hg4 hnews hmade
    go_wp2_with (fail)
    go_ret2
    exact ⟨_, k, c1, ys, p', k, c', ys, rfl, by omega, by omega, o3'.mono (by omega) (by omega), hys, (Own.of ho5).mono (by omega) (by omega), hys, below_on b3 b4⟩

theorem drawXor_any (p : Option Addr) (n c : Nat) (xs : List Int) (w : World) (hn : n ≤ 1048576) (hx : xs.length = n) (hb : BytesIn w p n xs) (hr : ∀ x ∈ xs, 0 ≤ x ∧ x < 256) :
    Calls Try.prog 10 #[.slice p n c] w fun e w' => ∃ p1 k1 c1 ys p2 k2 c2 zs, e = .returned (.tuple #[.slice p1 k1 c1, .slice p2 k2 c2]) ∧ k1 ≤ 12 ∧ k2 ≤ 12 ∧
      Own 5 w' w.heap.size w'.heap.size (.slice p1 k1 c1) k1 ys ∧ (∀ y ∈ ys, 0 ≤ y ∧ y < 256) ∧ Own 5 w' w.heap.size w'.heap.size (.slice p2 k2 c2) k2 zs ∧ (∀ y ∈ zs, 0 ≤ y ∧ y < 256) ∧ Below w.heap.size w w' := by
  go_enter Try.func10, Try.ntmps10
  go_wp2_with (fail)
  refine (drawTwo_any p n c xs _ hn hx hb hr).mono ?_
  rintro e w' ⟨p1, k1, c1, ys, p2, k2, c2, zs, rfl, rest⟩
  go_wp2_with (fail)
  go_ret2
  exact ⟨p1, k1, c1, ys, p2, k2, c2, zs, rfl, rest⟩

theorem drawSame_any (p : Option Addr) (n c : Nat) (xs : List Int) (w : World) (hn : n ≤ 1048576) (hx : xs.length = n) (hb : BytesIn w p n xs) (hr : ∀ x ∈ xs, 0 ≤ x ∧ x < 256) :
    Calls Try.prog 12 #[.slice p n c] w fun e w' => ∃ p1 k1 c1 ys p2 k2 c2 zs, e = .returned (.tuple #[.slice p1 k1 c1, .slice p2 k2 c2]) ∧ k1 ≤ 12 ∧ k2 ≤ 12 ∧
      Own 5 w' w.heap.size w'.heap.size (.slice p1 k1 c1) k1 ys ∧ (∀ y ∈ ys, 0 ≤ y ∧ y < 256) ∧ Own 5 w' w.heap.size w'.heap.size (.slice p2 k2 c2) k2 zs ∧ (∀ y ∈ zs, 0 ≤ y ∧ y < 256) ∧ Below w.heap.size w w' := by
  go_enter Try.func12, Try.ntmps12
  go_wp2_with (fail)
  refine (drawTwo_any p n c xs _ hn hx hb hr).mono ?_
  rintro e w' ⟨p1, k1, c1, ys, p2, k2, c2, zs, rfl, rest⟩
  go_wp2_with (fail)
  go_ret2
  exact ⟨p1, k1, c1, ys, p2, k2, c2, zs, rfl, rest⟩

set_option maxHeartbeats 2000000 in
theorem drawLittle_any (p : Option Addr) (n c : Nat) (xs : List Int) (w : World) (hn : n ≤ 1048576) (hx : xs.length = n) (hb : BytesIn w p n xs) (hr : ∀ x ∈ xs, 0 ≤ x ∧ x < 256) :
    Calls Try.prog 13 #[.slice p n c] w fun e w' => ∃ z many : Int, e = .returned (.tuple #[.int .i64 z, .int .i64 many]) ∧ z ≤ 9223372036854775807 ∧ Below w.heap.size w w' := by
  go_enter Try.func13, Try.ntmps13
  go_wp2_with (fail)
  refine (l1New_any p n c xs _ hn hx hb hr).mono ?_
  rintro e w1 ⟨a, rfl, ha, ha1, hc1, b1⟩
  have z1 := b1.size
  go_wp2_with (fail)
  have hb0 : Below w1.heap.size w1 (w1.alloc (.cells (([0, 1, 255, 256, 70000, 9223372036854775807, -1] : List Int).map (Value.int .i64)).toArray 3)) := (Below.refl _ _).alloc (Nat.le_refl _) _
  refine (l1PickInt_any a p n c xs w1.heap.size 7 [0, 1, 255, 256, 70000, 9223372036854775807, -1] _ (by omega) (by omega) rfl (lit_ints w1 [0, 1, 255, 256, 70000, 9223372036854775807, -1] 3) (by omega) (hc1.below hb0 ha1 hc1.code_lt)).mono ?_
  rintro e w2 ⟨z, hz, rfl, hc2, g2⟩
  have b2 := below_cur (below_on b1 hb0) g2 ha
  have z2 := g2.size
  clear hb0
  go_wp2_with (fail)
  have hb2 : Below w2.heap.size w2 (w2.alloc (.cells (([1, 2, 4, 8, 0, 9, -1] : List Int).map (Value.int .i64)).toArray 3)) := (Below.refl _ _).alloc (Nat.le_refl _) _
  refine (l1PickInt_any a p n c xs w2.heap.size 7 [1, 2, 4, 8, 0, 9, -1] _ (by omega) (by omega) rfl (lit_ints w2 [1, 2, 4, 8, 0, 9, -1] 3) (by have := hc2.lt; omega) (hc2.below hb2 hc2.lt hc2.code_lt)).mono ?_
  rintro e w3 ⟨m, hm, rfl, hc3, g3⟩
  have b3 := below_cur (below_on b2 hb2) g3 ha
  clear hb2
  have hz2 : Hid (z ≤ 9223372036854775807) := by
    simp only [List.mem_cons, List.not_mem_nil, or_false] at hz
    show z ≤ 9223372036854775807
    omega
  clear hz hm
  go_wp2_with (fail)
  go_ret2
  exact ⟨z, m, rfl, hz2.out, b3⟩

theorem drawGreat_any (p : Option Addr) (n c : Nat) (xs : List Int) (w : World) (hn : n ≤ 1048576) (hx : xs.length = n) (hb : BytesIn w p n xs) (hr : ∀ x ∈ xs, 0 ≤ x ∧ x < 256) :
    Calls Try.prog 14 #[.slice p n c] w fun e w' => ∃ z many : Int, e = .returned (.tuple #[.int .i64 z, .int .i64 many]) ∧ z ≤ 9223372036854775807 ∧ Below w.heap.size w w' := by
  go_enter Try.func14, Try.ntmps14
  go_wp2_with (fail)
  refine (drawLittle_any p n c xs _ hn hx hb hr).mono ?_
  rintro e w' ⟨z, m, rfl, rest⟩
  go_wp2_with (fail)
  go_ret2
  exact ⟨z, m, rfl, rest⟩

set_option maxHeartbeats 2000000 in
theorem drawUnhex_any (p : Option Addr) (n c : Nat) (xs : List Int) (w : World) (hn : n ≤ 1048576) (hx : xs.length = n) (hb : BytesIn w p n xs) (hr : ∀ x ∈ xs, 0 ≤ x ∧ x < 256) :
    Calls Try.prog 7 #[.slice p n c] w fun e w' => ∃ s : ByteArray, e = .returned (.string s) ∧ s.size ≤ 100 ∧ Below w.heap.size w w' := by
  go_enter Try.func7, Try.ntmps7
  go_wp2_with (fail)
  refine (l1New_any p n c xs _ hn hx hb hr).mono ?_
  rintro e w1 ⟨a, rfl, ha, ha1, hc1, b1⟩
  go_wp2_with (fail)
  refine (l1DrawBytes_any a p n c xs 8 _ (by omega) (by omega) hc1).mono ?_
  rintro e w2 ⟨g, k, c', ys, rfl, hk, o2, hys, hc2, g2⟩
  have b2 := below_cur b1 g2 ha
  go_wp2_with (fail)
  refine (specHex_any _ k c' ys _ (by omega) o2.len o2.bytes hys).mono ?_
  rintro e w3 ⟨rfl, b3⟩
  have hc3 := hc2.below b3 hc2.lt hc2.code_lt
  have b3' := below_on b2 b3
  have hlen : Hid ((strOfNums (hexL ys)).size ≤ 16) := by
    show (strOfNums (hexL ys)).size ≤ 16
    rw [strOfNums_size]
    have h1 : ∀ zs : List Int, (hexL zs).length = 2 * zs.length := by
      intro zs
      induction zs with
      | nil => rfl
      | cons z zs ih => simp [hexL] at ih ⊢; omega
    rw [h1, o2.len]
    omega
  obtain ⟨S, hS⟩ : ∃ S, S = strOfNums (hexL ys) := ⟨_, rfl⟩
  rw [← hS] at hlen ⊢
  clear hS hc2 o2
  go_wp2_with (fail)
  refine (l1Once_any a p n c xs 4 _ (by omega) (by omega) hc3).mono ?_
  rintro e w4 ⟨b, rfl, hc4, g4⟩
  have b4 := below_cur b3' g4 ha
  cases b
  · go_wp2_with (fail)
    go_ret
    exact ⟨S, rfl, Nat.le_trans hlen.out (by omega), b4⟩
  · go_wp2_with (fail)
    have hb0 : Below w4.heap.size w4 (w4.alloc (.cells (([⟨#[48]⟩, ⟨#[103, 48]⟩, ⟨#[65, 49]⟩, ⟨#[48, 120]⟩, ⟨#[102, 102]⟩] : List ByteArray).map Value.string).toArray 9)) := (Below.refl _ _).alloc (Nat.le_refl _) _
    refine (l1Pick_any a p n c xs w4.heap.size 5 [⟨#[48]⟩, ⟨#[103, 48]⟩, ⟨#[65, 49]⟩, ⟨#[48, 120]⟩, ⟨#[102, 102]⟩] _ (by omega) (by omega) rfl (lit_strs w4 [⟨#[48]⟩, ⟨#[103, 48]⟩, ⟨#[65, 49]⟩, ⟨#[48, 120]⟩, ⟨#[102, 102]⟩] 9) (by have := hc4.lt; omega) (hc4.below hb0 hc4.lt hc4.code_lt)).mono ?_
    rintro e w5 ⟨t, ht, rfl, hc5, g5⟩
    have b5 := below_cur (below_on b4 hb0) g5 ha
    have ht2 : Hid (t.size ≤ 2) := by
      show t.size ≤ 2
      simp only [List.mem_cons, List.not_mem_nil, or_false] at ht
      rcases ht with rfl | rfl | rfl | rfl | rfl <;> decide
    have hS := hlen.out
    have hT := ht2.out
    clear hb0 ht
    go_wp2_with (fail)
    go_ret
    exact ⟨S ++ t, rfl, by rw [ByteArray.size_append]; omega, b5⟩

end Go.Proofs.Ytjcombfcilbafae
