/-
  What TagText answers, of both sides, whatever bytes it is given: both texts, noughts behind each up to a number of 16s, and how long each is. Condition: bytes, at most 2^20 each.
-/
import Derived.Test.YtadhjbmideoihamLittle
import Derived.Test.YtadhjbmideoihamConcat
namespace Go.Proofs.Ytadhjbmideoiham
open Go.RowKit

def fillN (n : Nat) : Nat := (16 - n % 16) % 16
theorem fillN_lt (n : Nat) : fillN n < 16 := by unfold fillN; omega
def fillL (xs : List Int) : List Int := xs ++ List.replicate (fillN xs.length) 0
theorem fillL_length (xs : List Int) : (fillL xs).length = xs.length + fillN xs.length := by simp [fillL]
def ttN (n m : Nat) : Nat := n + fillN n + (m + fillN m) + 8 + 8
theorem ttN_le {n m : Nat} (hn : n ≤ 1048576) (hm : m ≤ 1048576) : ttN n m ≤ 2097300 := by have := fillN_lt n; have := fillN_lt m; unfold ttN; omega
def ttL (xs ys : List Int) : List Int := fillL xs ++ fillL ys ++ littleL (xs.length : Int) 8 ++ littleL (ys.length : Int) 8

set_option maxHeartbeats 4000000 in
theorem l7Fill_any (p : Option Addr) (n c : Nat) (xs : List Int) (w : World) (hn : n ≤ 1048576) (hx : xs.length = n) (h : BytesIn w p n xs) :
    Calls Try.prog 26 #[.slice p n c] w fun e w' => ∃ p' c', e = .returned (.slice p' (n + fillN n) c') ∧ Own 5 w' w.heap.size w'.heap.size (.slice p' (n + fillN n) c') (n + fillN n) (fillL xs) ∧ Below w.heap.size w w' := by
  obtain ⟨i0, hi, hz0, hz1, hz2⟩ := info_parts infoByte
  have hzl := fillN_lt n
  have HZ : Hid (fillN n = (16 - n % 16) % 16) := rfl
  have HF : Hid (fillL xs = xs ++ List.replicate (fillN n) 0) := by rw [Hid, fillL, hx]
  generalize fillN n = Z at hzl HZ HF ⊢
  generalize fillL xs = FL at HF ⊢
  go_enter Try.func26, Try.ntmps26
  have hown0 : (w.alloc (.cells #[] 5)).ownsRow w.heap.size 5 1 (.slice (some ⟨w.heap.size, 0, none⟩) 0 0) 0 (([] : List Int).map (Value.int .u8)) := World.ownsRow_made w #[] 0 (Nat.le_refl _) (by unfold maxLen; omega) rfl
  have hb0 : Below w.heap.size w (w.alloc (.cells #[] 5)) := (Below.refl _ _).alloc (Nat.le_refl _) _
  have h1 := in_below h hb0
  have hlen : xs.length = n := hx
  clear hx h
  go_wp2_with (at_builtin; refine list_spreadA hi hz0 hz1 hz2 (.tmp 4) (.tmp 5) 22 Try.underlying22 hown0 h1 hlen (by omega) (by omega) (by simp) (by rfl) (by rfl) (by rfl) (by rfl) ?_; intro p1 cap1 w1 ho1 hb1; simp only [Nat.zero_add, List.nil_append] at ho1 ⊢)
  have bel1 : Below w.heap.size w w1 := hb0.trans hb1
  clear hown0 hb0 h1 hb1
  go_loopw [3] (fun v wr => ∃ k m : Nat, k ≤ Z ∧ Hid (m = n + k) ∧ wr.ownsRow w.heap.size 5 1 v m ((xs ++ List.replicate k 0).map (Value.int .u8)) ∧ Below w.heap.size w wr)
    (fun v _ => match v with | .slice _ m _ => n + Z - m | _ => 0)
  case atStart => exact ⟨0, n, by omega, rfl, by simpa using ho1, bel1⟩
  case round =>
    clear ho1 bel1
    obtain ⟨k, m, hk, hm, hown, hbel⟩ := hrel
    have hsz := hbel.size
    obtain ⟨q, cq, hv⟩ := owns_form hown
    subst hv
    have hmb : m ≤ 1048600 := by have := hm.out; omega
    by_cases hlt : k < Z
    · have d1 : ((m : Int) % 16 != 0) = true := by
        have := hm.out
        have := HZ.out
        have : (m : Int) % 16 ≠ 0 := by omega
        simpa using this
      have HX : Hid (xs ++ List.replicate k 0 ++ [0] = xs ++ List.replicate (k + 1) 0) := by
        rw [Hid, List.append_assoc _ _ [0], ← List.replicate_succ']
      go_wp2_with (at_builtin; refine list_push hi hz0 hz1 hz2 (.tmp 11) (.tmp 12) 22 Try.underlying22 _ hown (by omega) hsz (by rfl) (by rfl) (by rfl) (by rfl) ?_; intro g3 cap3 w3 ho3 hb3; rw [HX.out] at ho3)
      go_roundw
      case rel => exact ⟨k + 1, m + 1, by omega, by have := hm.out; rw [Hid]; omega, ho3, hbel.trans hb3⟩
      case measure => have := hm.out; show n + Z - (m + 1) < n + Z - m; omega
    · obtain rfl : k = Z := by omega
      have d1 : ((m : Int) % 16 != 0) = false := by
        have := hm.out
        have := HZ.out
        have : (m : Int) % 16 = 0 := by omega
        simp [this]
      go_wp2
      go_ret
      rw [hm.out, ← HF.out] at hown
      rw [hm.out]
      exact ⟨_, _, rfl, .of hown, hbel⟩

theorem specLit8 (n : Nat) (w : World) (hn : n ≤ 1048576) :
    Calls Try.prog 27 #[.int .i64 n, .int .i64 8] w fun e w' => ∃ p c, e = .returned (.slice p 8 c) ∧ Own 5 w' w.heap.size w'.heap.size (.slice p 8 c) 8 (littleL (n : Int) 8) ∧ Below w.heap.size w w' := specLittle_yes (n : Int) 8 w (by omega) (by omega) (by omega) (by omega)
theorem implLit8 (n : Nat) (w : World) (hn : n ≤ 1048576) :
    Calls Try.prog 30 #[.int .i64 n, .int .i64 8] w fun e w' => ∃ p c, e = .returned (.slice p 8 c) ∧ Own 5 w' w.heap.size w'.heap.size (.slice p 8 c) 8 (littleL (n : Int) 8) ∧ Below w.heap.size w w' := implLittle_yes (n : Int) 8 w (by omega) (by omega) (by omega) (by omega)

set_option maxHeartbeats 4000000 in
theorem specTagText_any (p q : Option Addr) (n m c d : Nat) (xs ys : List Int) (w : World) (hn : n ≤ 1048576) (hm : m ≤ 1048576) (hx : xs.length = n) (hy : ys.length = m) (h : BytesIn w p n xs) (h' : BytesIn w q m ys) :
    Calls Try.prog 11 #[.slice p n c, .slice q m d] w fun e w' => ∃ p' c', e = .returned (.slice p' (ttN n m) c') ∧ Own 5 w' w.heap.size w'.heap.size (.slice p' (ttN n m) c') (ttN n m) (ttL xs ys) ∧ Below w.heap.size w w' := by
  obtain ⟨i0, hi, hz0, hz1, hz2⟩ := info_parts infoByte
  have hlx : (fillL xs).length = n + fillN n := by rw [fillL_length, hx]
  have hly : (fillL ys).length = m + fillN m := by rw [fillL_length, hy]
  have hz1' := fillN_lt n
  have hz2' := fillN_lt m
  have C1 := fun w h => l7Fill_any p n c xs w hn hx h
  have C2 := fun w h => l7Fill_any q m d ys w hm hy h
  have L1 := fun w => specLit8 n w hn
  have L2 := fun w => specLit8 m w hm
  have hl1 := littleL_length (n : Int) 8
  have hl2 := littleL_length (m : Int) 8
  have HT : Hid (ttL xs ys = fillL xs ++ fillL ys ++ littleL (n : Int) 8 ++ littleL (m : Int) 8) := by rw [Hid, ttL, hx, hy]
  have HN : Hid (ttN n m = n + fillN n + (m + fillN m) + 8 + 8) := rfl
  generalize ttL xs ys = TL at HT ⊢
  generalize ttN n m = TN at HN ⊢
  generalize fillL xs = FX at hlx C1 HT
  generalize fillL ys = FY at hly C2 HT
  generalize littleL (n : Int) 8 = LX at L1 hl1 HT
  generalize littleL (m : Int) 8 = LY at L2 hl2 HT
  obtain ⟨N1, hN1⟩ : ∃ N1, N1 = n + fillN n := ⟨_, rfl⟩
  obtain ⟨N2, hN2⟩ : ∃ N2, N2 = m + fillN m := ⟨_, rfl⟩
  have hb1 : N1 ≤ 1048600 := by omega
  have hb2 : N2 ≤ 1048600 := by omega
  rw [← hN1] at hlx HN
  simp only [← hN1] at C1
  rw [← hN2] at hly HN
  simp only [← hN2] at C2
  clear hN1 hN2 hz1' hz2' hx hy
  go_enter Try.func11, Try.ntmps11
  go_wp2_with (fail)
  refine (C1 _ h).mono ?_
  rintro e w1 ⟨p1, c1, rfl, r1, b1⟩
  have h1 := in_below h' b1
  clear C1 h h'
  go_wp2_with (fail)
  refine (C2 _ h1).mono ?_
  rintro e w2 ⟨p2, c2, rfl, r2, b2⟩
  have o2 := owns_below r1.1 b2
  have bb2 := below_on b1 b2
  have i2 := r2.bytes
  have hs2 := bb2.size
  clear C2 r1 r2 b1 b2 h1
  go_wp2_with (at_builtin; refine list_spreadA hi hz0 hz1 hz2 (.tmp 7) (.tmp 9) 22 Try.underlying22 o2 i2 hly (by omega) (by omega) hs2 (by rfl) (by rfl) (by rfl) (by rfl) ?_; intro p3 c3 w3 o3 b3)
  have bb3 := bb2.trans b3
  clear o2 i2 bb2 b3 hs2
  refine (L1 _).mono ?_
  rintro e w4 ⟨p4, c4, rfl, r4, b4⟩
  have o4 := owns_below o3 b4
  have bb4 := below_on bb3 b4
  have i4 := r4.bytes
  have hs4 := bb4.size
  clear L1 o3 bb3 r4 b4
  go_wp2_with (at_builtin; refine list_spreadA hi hz0 hz1 hz2 (.tmp 11) (.tmp 14) 22 Try.underlying22 o4 i4 hl1 (by omega) (by omega) hs4 (by rfl) (by rfl) (by rfl) (by rfl) ?_; intro p5 c5 w5 o5 b5)
  have bb5 := bb4.trans b5
  clear o4 i4 bb4 b5 hs4
  refine (L2 _).mono ?_
  rintro e w6 ⟨p6, c6, rfl, r6, b6⟩
  have o6 := owns_below o5 b6
  have bb6 := below_on bb5 b6
  have i6 := r6.bytes
  have hs6 := bb6.size
  clear L2 o5 bb5 r6 b6
  go_wp2_with (at_builtin; refine list_spreadA hi hz0 hz1 hz2 (.tmp 16) (.tmp 19) 22 Try.underlying22 o6 i6 hl2 (by omega) (by omega) hs6 (by rfl) (by rfl) (by rfl) (by rfl) ?_; intro p7 c7 w7 o7 b7)
  go_ret
  rw [HN.out, HT.out]
  exact ⟨_, _, rfl, .of o7, bb6.trans b7⟩

end Go.Proofs.Ytadhjbmideoiham
