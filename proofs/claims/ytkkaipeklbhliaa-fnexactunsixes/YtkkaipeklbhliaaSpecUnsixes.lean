/-
  FnExactUnsixes: what spec.Unsixes answers. Conditions: at most 1048576 signs.
-/
import Derived.Test.YtkkaipeklbhliaaSpecSixes
import Derived.Test.YtkkaipeklbhliaaUnsixMath
namespace Go.Proofs.Ytkkaipeklbhliaa
open Go.RowKit
set_option maxRecDepth 100000

theorem l21Six_any (c : Int) (w : World) (h0 : 0 ≤ c) (h1 : c < 256) : Calls Try.prog 26 #[.int .u8 c] w fun e w' => e = .returned (.int .i64 (h6 c)) ∧ w' = w := by
  have hs : (65 ≤ c ∧ c ≤ 90) ∨ (97 ≤ c ∧ c ≤ 122) ∨ (48 ≤ c ∧ c ≤ 57) ∨ c = 45 ∨ c = 95 ∨ (c < 45) ∨ (45 < c ∧ c < 48) ∨ (57 < c ∧ c < 65) ∨ (90 < c ∧ c < 95) ∨ c = 96 ∨ 122 < c := by omega
  rcases hs with ⟨a, b⟩ | ⟨a, b⟩ | ⟨a, b⟩ | rfl | rfl | a | ⟨a, b⟩ | ⟨a, b⟩ | ⟨a, b⟩ | rfl | a
  · have e : h6 c = c - 65 := by unfold h6; rw [if_pos ⟨a, b⟩]
    rw [e]
    go_enter Try.func26, Try.ntmps26
    go_wp2
    go_ret
    exact ⟨rfl, rfl⟩
  · have e : h6 c = c - 71 := by unfold h6; rw [if_neg (by omega), if_pos ⟨a, b⟩]
    rw [e]
    go_enter Try.func26, Try.ntmps26
    go_wp2
    go_ret
    exact ⟨rfl, rfl⟩
  · have e : h6 c = c + 4 := by unfold h6; rw [if_neg (by omega), if_neg (by omega), if_pos ⟨a, b⟩]
    rw [e]
    go_enter Try.func26, Try.ntmps26
    go_wp2
    go_ret
    exact ⟨rfl, rfl⟩
  · have e : h6 45 = 62 := by rfl
    rw [e]
    go_enter Try.func26, Try.ntmps26
    go_wp2
    go_ret
    exact ⟨rfl, rfl⟩
  · have e : h6 95 = 63 := by rfl
    rw [e]
    go_enter Try.func26, Try.ntmps26
    go_wp2
    go_ret
    exact ⟨rfl, rfl⟩
  · have e : h6 c = -1 := by unfold h6; rw [if_neg (by omega), if_neg (by omega), if_neg (by omega), if_neg (by omega), if_neg (by omega)]
    rw [e]
    go_enter Try.func26, Try.ntmps26
    go_wp2
    go_ret
    exact ⟨rfl, rfl⟩
  · have e : h6 c = -1 := by unfold h6; rw [if_neg (by omega), if_neg (by omega), if_neg (by omega), if_neg (by omega), if_neg (by omega)]
    rw [e]
    go_enter Try.func26, Try.ntmps26
    go_wp2
    go_ret
    exact ⟨rfl, rfl⟩
  · have e : h6 c = -1 := by unfold h6; rw [if_neg (by omega), if_neg (by omega), if_neg (by omega), if_neg (by omega), if_neg (by omega)]
    rw [e]
    go_enter Try.func26, Try.ntmps26
    go_wp2
    go_ret
    exact ⟨rfl, rfl⟩
  · have e : h6 c = -1 := by unfold h6; rw [if_neg (by omega), if_neg (by omega), if_neg (by omega), if_neg (by omega), if_neg (by omega)]
    rw [e]
    go_enter Try.func26, Try.ntmps26
    go_wp2
    go_ret
    exact ⟨rfl, rfl⟩
  · have e : h6 96 = -1 := by rfl
    rw [e]
    go_enter Try.func26, Try.ntmps26
    go_wp2
    go_ret
    exact ⟨rfl, rfl⟩
  · have e : h6 c = -1 := by unfold h6; rw [if_neg (by omega), if_neg (by omega), if_neg (by omega), if_neg (by omega), if_neg (by omega)]
    rw [e]
    go_enter Try.func26, Try.ntmps26
    go_wp2
    go_ret
    exact ⟨rfl, rfl⟩

theorem l21Six_at (s : ByteArray) (i : Nat) (w : World) : Calls Try.prog 26 #[.int .u8 (c6 s i)] w fun e w' => e = .returned (.int .i64 (d6 s i)) ∧ w' = w := l21Six_any _ w (c6_lt s i).1 (c6_lt s i).2

set_option maxHeartbeats 2000000 in
theorem specUnsixes_any (s : ByteArray) (w : World) (hs : s.size ≤ 1048576) :
    Calls Try.prog 11 #[.string s] w fun e w' => ∃ p c, e = .returned (.tuple #[.slice p (unN6 s) c, .bool (ok6 s)]) ∧ Own 5 w' w.heap.size w'.heap.size (.slice p (unN6 s) c) (unN6 s) (unL6 s) ∧ Below w.heap.size w w' := by
  obtain ⟨i0, hi, hz0, hz1, hz2⟩ := info_parts infoByte
  go_enter Try.func11, Try.ntmps11
  go_wp2
  go_loopw [4, 5, 6, 7] (fun v hd b i wr => ∃ (k : Nat) (H : Int), k ≤ s.size ∧ i = .int .i64 k ∧ hd = .int .i64 H ∧ Hid (All6 s k) ∧ Hid (UnH s k H) ∧ b = .int .i64 ((6 * k % 8 : Nat) : Int) ∧ wr.ownsRow w.heap.size 5 1 v (6 * k / 8) ((unT6 s (6 * k / 8)).map (Value.int .u8)) ∧ Below w.heap.size w wr)
    (fun _ _ _ i _ => s.size - (intOf i).toNat)
  case atStart => exact ⟨0, 0, Nat.zero_le _, rfl, rfl, fun j hj => by omega, UnH.start, rfl, World.ownsRow_made w #[] 0 (Nat.le_refl _) (by unfold maxLen; omega) rfl, (Below.refl _ _).alloc (Nat.le_refl _) _⟩
  case round =>
    obtain ⟨k, H, hk, rfl, rfl, hA, hH, rfl, hown, hbel⟩ := hrel
    have hsz := hbel.size
    by_cases hlt : k < s.size
    · have i1 : (0 : Int) ≤ (k : Int) := by omega
      have i2 : (k : Int) < (s.size : Int) := by omega
      have ex := c6_at s k
      by_cases hX : d6 s k < 0
      · have hB : Hid (ok6 s = false) := ok6_not hlt hX
        clear hA hH
        go_wp2_with (go_at_call 26; refine (l21Six_at _ _ _).mono ?_; rintro e w' ⟨rfl, he⟩; obtain rfl := he.symm)
        go_ret2
        exact un6_bad hB.out (World.ownsRow_made _ #[] 0 hsz (by unfold maxLen; omega) rfl) (hbel.alloc hsz _)
      · have hX0 : 0 ≤ d6 s k := by omega
        have hXl := (d6_le s k).2
        have hA2 : Hid (All6 s (k + 1)) := hA.out.more hX0
        have hN : Hid (UnH s (k + 1) (H % 64 * 64 + d6 s k)) := UnH.next hX0
        have hm := sixAnd63 H
        have hor := six_or6 (H % 64) (d6 s k) ⟨by omega, by omega⟩ ⟨hX0, hXl⟩
        have h4 : k % 4 = 0 ∨ k % 4 = 1 ∨ k % 4 = 2 ∨ k % 4 = 3 := by omega
        rcases h4 with h4 | h4 | h4 | h4
        · have h5 : 6 * k % 8 = 0 := by omega
          have h4' : Hid (6 * (k + 1) % 8 = 6 ∧ 6 * (k + 1) / 8 = 6 * k / 8) := by show _ ∧ _; omega
          rw [h5]
          clear hA hH h4 h5
          go_wp2_with (go_at_call 26; refine (l21Six_at _ _ _).mono ?_; rintro e w' ⟨rfl, he⟩; obtain rfl := he.symm)
          go_roundw
          case rel => exact ⟨k + 1, _, by omega, by go_num, rfl, hA2, hN, by rw [h4'.out.1]; rfl, by rw [h4'.out.2]; exact hown, hbel⟩
          case measure => simp [intOf]; omega
        · have h5 : 6 * k % 8 = 6 := by omega
          have h4' : Hid (6 * (k + 1) % 8 = 4 ∧ 6 * (k + 1) / 8 = 6 * k / 8 + 1) := by show _ ∧ _; omega
          have hd := und4 hH.out hX0 h4
          have hm2 := sixAnd255 ((H % 64 * 64 + d6 s k) / 16)
          obtain ⟨hU0, hU1⟩ := unD_lt hA2.out (j := 6 * k / 8) (by omega)
          have HN : Hid (unT6 s (6 * k / 8) ++ [unD s (6 * k / 8)] = unT6 s (6 * k / 8 + 1)) := unT6_step s _
          obtain ⟨t, ht⟩ : ∃ t, 6 * k / 8 = t := ⟨_, rfl⟩
          have ht1 : t ≤ 1099511627776 := by omega
          rw [ht] at hd HN hU0 hU1 hown h4'
          rw [h5]
          clear hA hH h4 h5 ht
          go_wp2_with (first | (go_at_call 26; refine (l21Six_at _ _ _).mono ?_; rintro e w' ⟨rfl, he⟩; obtain rfl := he.symm) | (at_builtin; refine list_push hi hz0 hz1 hz2 (.tmp 34) (.tmp 40) 22 Try.underlying22 _ hown ht1 hsz (by rfl) (by rfl) (by rfl) (by rfl) ?_; intro g cap w1 ho1 hb1; rw [HN.out] at ho1))
          go_roundw
          case rel => exact ⟨k + 1, _, by omega, by go_num, rfl, hA2, hN, by rw [h4'.out.1]; rfl, by rw [h4'.out.2]; exact ho1, hbel.trans hb1⟩
          case measure => simp [intOf]; omega
        · have h5 : 6 * k % 8 = 4 := by omega
          have h4' : Hid (6 * (k + 1) % 8 = 2 ∧ 6 * (k + 1) / 8 = 6 * k / 8 + 1) := by show _ ∧ _; omega
          have hd := und2 hH.out hX0 h4
          have hm2 := sixAnd255 ((H % 64 * 64 + d6 s k) / 4)
          obtain ⟨hU0, hU1⟩ := unD_lt hA2.out (j := 6 * k / 8) (by omega)
          have HN : Hid (unT6 s (6 * k / 8) ++ [unD s (6 * k / 8)] = unT6 s (6 * k / 8 + 1)) := unT6_step s _
          obtain ⟨t, ht⟩ : ∃ t, 6 * k / 8 = t := ⟨_, rfl⟩
          have ht1 : t ≤ 1099511627776 := by omega
          rw [ht] at hd HN hU0 hU1 hown h4'
          rw [h5]
          clear hA hH h4 h5 ht
          go_wp2_with (first | (go_at_call 26; refine (l21Six_at _ _ _).mono ?_; rintro e w' ⟨rfl, he⟩; obtain rfl := he.symm) | (at_builtin; refine list_push hi hz0 hz1 hz2 (.tmp 34) (.tmp 40) 22 Try.underlying22 _ hown ht1 hsz (by rfl) (by rfl) (by rfl) (by rfl) ?_; intro g cap w1 ho1 hb1; rw [HN.out] at ho1))
          go_roundw
          case rel => exact ⟨k + 1, _, by omega, by go_num, rfl, hA2, hN, by rw [h4'.out.1]; rfl, by rw [h4'.out.2]; exact ho1, hbel.trans hb1⟩
          case measure => simp [intOf]; omega
        · have h5 : 6 * k % 8 = 2 := by omega
          have h4' : Hid (6 * (k + 1) % 8 = 0 ∧ 6 * (k + 1) / 8 = 6 * k / 8 + 1) := by show _ ∧ _; omega
          have hd := und0 hH.out hX0 h4
          have hm2 := sixAnd255 (H % 64 * 64 + d6 s k)
          obtain ⟨hU0, hU1⟩ := unD_lt hA2.out (j := 6 * k / 8) (by omega)
          have HN : Hid (unT6 s (6 * k / 8) ++ [unD s (6 * k / 8)] = unT6 s (6 * k / 8 + 1)) := unT6_step s _
          obtain ⟨t, ht⟩ : ∃ t, 6 * k / 8 = t := ⟨_, rfl⟩
          have ht1 : t ≤ 1099511627776 := by omega
          rw [ht] at hd HN hU0 hU1 hown h4'
          rw [h5]
          clear hA hH h4 h5 ht
          go_wp2_with (first | (go_at_call 26; refine (l21Six_at _ _ _).mono ?_; rintro e w' ⟨rfl, he⟩; obtain rfl := he.symm) | (at_builtin; refine list_push hi hz0 hz1 hz2 (.tmp 34) (.tmp 40) 22 Try.underlying22 _ hown ht1 hsz (by rfl) (by rfl) (by rfl) (by rfl) ?_; intro g cap w1 ho1 hb1; rw [HN.out] at ho1))
          go_roundw
          case rel => exact ⟨k + 1, _, by omega, by go_num, rfl, hA2, hN, by rw [h4'.out.1]; rfl, by rw [h4'.out.2]; exact ho1, hbel.trans hb1⟩
          case measure => simp [intOf]; omega
    · have hks : k = s.size := by omega
      subst hks
      obtain ⟨p', c', hv⟩ := owns_form hown
      subst hv
      have hlen := owns_len hown
      have hB := owns_in hown
      have hT : ∀ x ∈ unT6 s (6 * s.size / 8), 0 ≤ x ∧ x < 256 := unT6_lt hA.out (by omega)
      by_cases hE : (strOfNums (sixL (unT6 s (6 * s.size / 8)))).toList = s.toList
      · have hok : Hid (ok6 s = true) := (ok6_iff s).2 ⟨hA.out, hE⟩
        clear hA hH
        go_wp2_with (go_at_call 7; refine (specSixes_any _ _ _ _ _ (by omega) hlen hB hT).mono ?_; rintro e w' ⟨rfl, hb1⟩)
        go_ret2
        exact un6_good rfl hok.out (owns_below hown hb1) (below_on hbel hb1)
      · have hok : Hid (ok6 s = false) := ok6_other hE
        have hne : ((strOfNums (sixL (unT6 s (6 * s.size / 8)))).toList == s.toList) = false := by simpa using hE
        clear hA hH hE
        go_wp2_with (go_at_call 7; refine (specSixes_any _ _ _ _ _ (by omega) hlen hB hT).mono ?_; rintro e w' ⟨rfl, hb1⟩)
        go_ret2
        exact un6_bad hok.out (World.ownsRow_made _ #[] 0 (Nat.le_trans hsz hb1.size) (by unfold maxLen; omega) rfl) ((below_on hbel hb1).alloc (Nat.le_trans hsz hb1.size) _)

end Go.Proofs.Ytkkaipeklbhliaa
