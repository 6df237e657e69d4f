/-
  What the specification's Block answers, whatever bytes and count it is given: 64 bytes, or nothing. Condition: bytes all.
-/
import Derived.Test.YtcmbglelllcbdalDoorBlockMath
import Derived.Test.YtcmbglelllcbdalDoorQuarterAny
namespace Go.Proofs.YtcmbglelllcbdalDoor
open Go.RowKit

set_option maxRecDepth 100000 in
set_option maxHeartbeats 400000 in
theorem l5Double_any (p : Option Addr) (c : Nat) (L : List Int) (w : World) (hL : L.length = 16) (h : IntsIn w p 16 L) :
    Calls Tryd.prog 29 #[.slice p 16 c] w fun e w' => ∃ p' c', e = .returned (.slice p' 16 c') ∧ OwnI 3 w' w.heap.size w'.heap.size (.slice p' 16 c') 16 (doubleL L) ∧ Below w.heap.size w w' := by
  go_enter Tryd.func29, Tryd.ntmps29
  go_wp2_with (fail)
  have HC : Hid (∀ k, (colsL L k).length = 16) := fun k => by rw [colsL_length]; exact hL
  have HC0 : Hid (∀ k, quarterL (colsL L k) k (k + 4) (k + 8) (k + 12) = colsL L (k + 1)) := fun _ => rfl
  go_loopw [0, 3] (fun v i wr => ∃ (k : Nat) (q : Option Addr) (cc : Nat), k ≤ 4 ∧ i = .int .i64 k ∧ v = .slice q 16 cc ∧ IntsIn wr q 16 (colsL L k) ∧ Below w.heap.size w wr)
    (fun _ i _ => 4 - (intOf i).toNat)
  case atStart => exact ⟨0, p, c, by omega, rfl, rfl, h, Below.refl _ _⟩
  case round =>
    obtain ⟨k, q, cc, hk, rfl, rfl, hI, hb⟩ := hrel
    by_cases hlt : k < 4
    · have CQ := specQuarter_yes q cc (colsL L k) k (k + 4) (k + 8) (k + 12) wr (HC.out k) hI (by omega) (by omega) (by omega) (by omega) (by omega) (by omega) (by omega) (by omega) (by omega) (by omega)
      rw [HC0.out k, show ((k + 4 : Nat) : Int) = (k : Int) + 4 by omega, show ((k + 8 : Nat) : Int) = (k : Int) + 8 by omega, show ((k + 12 : Nat) : Int) = (k : Int) + 12 by omega] at CQ
      obtain ⟨X, hX⟩ : ∃ X, X = colsL L (k + 1) := ⟨_, rfl⟩
      rw [← hX] at CQ
      replace hX : Hid (X = colsL L (k + 1)) := hX
      clear hI
      go_wp2_with (fail)
      refine CQ.mono ?_
      rintro e w1 ⟨p1, c1, rfl, r1, b1⟩
      rw [hX.out] at r1
      have hI1 := r1.ints
      clear CQ r1
      go_wp2
      go_roundw
      case rel => exact ⟨k + 1, p1, c1, by omega, by go_num, rfl, hI1, below_on hb b1⟩
      case measure => simp [intOf]; omega
    · have hk4 : k = 4 := by omega
      have hnl : ¬ (k : Int) < 4 := by omega
      rw [hk4] at hI
      clear hk4
      have hD : (colsL L 4).length = 16 := HC.out 4
      have HE : Hid (doubleL L = diasL (colsL L 4) 4) := rfl
      generalize colsL L 4 = M at hI hD HE
      have HD : Hid (∀ k, (diasL M k).length = 16) := fun k => by rw [diasL_length]; exact hD
      have HD0 : Hid (∀ k, quarterL (diasL M k) k (4 + (k + 1) % 4) (8 + (k + 2) % 4) (12 + (k + 3) % 4) = diasL M (k + 1)) := fun _ => rfl
      clear HC HC0 h hL
      go_wp2_with (fail)
      obtain ⟨wo, hwo⟩ : ∃ wo, wo = wr := ⟨_, rfl⟩
      subst hwo
      go_loopw [0, 4] (fun v i wx => ∃ (k : Nat) (q : Option Addr) (cc lo hi : Nat), k ≤ 4 ∧ i = .int .i64 k ∧ v = .slice q 16 cc ∧ IntsIn wx q 16 (diasL M k) ∧ Hid (0 < k → w.heap.size ≤ lo ∧ hi ≤ wx.heap.size ∧ OwnI 3 wx lo hi (.slice q 16 cc) 16 (diasL M k)) ∧ Below w.heap.size w wx)
        (fun _ i _ => 4 - (intOf i).toNat)
      case atStart => exact ⟨0, q, cc, 0, 0, by omega, rfl, rfl, hI, fun h => absurd h (by omega), hb⟩
      case round =>
        clear hI hb
        obtain ⟨k, q, cc, lo, hh, hk, rfl, rfl, hI, hO, hb⟩ := hrel
        by_cases hlt : k < 4
        · have CQ := specQuarter_yes q cc (diasL M k) k (4 + (k + 1) % 4) (8 + (k + 2) % 4) (12 + (k + 3) % 4) wr (HD.out k) hI (by omega) (by omega) (by omega) (by omega) (by omega) (by omega) (by omega) (by omega) (by omega) (by omega)
          rw [HD0.out k] at CQ
          obtain ⟨X, hX⟩ : ∃ X, X = diasL M (k + 1) := ⟨_, rfl⟩
          rw [← hX] at CQ
          replace hX : Hid (X = diasL M (k + 1)) := hX
          rw [show ((4 + (k + 1) % 4 : Nat) : Int) = 4 + ((k : Int) + 1) % 4 by omega, show ((8 + (k + 2) % 4 : Nat) : Int) = 8 + ((k : Int) + 2) % 4 by omega, show ((12 + (k + 3) % 4 : Nat) : Int) = 12 + ((k : Int) + 3) % 4 by omega] at CQ
          have hlt' : (k : Int) < 4 := by omega
          replace CQ : Hid (Calls Tryd.prog 47 _ wr _) := CQ
          clear hI hO
          go_wp2_with (fail)
          refine CQ.out.mono ?_
          rintro e w1 ⟨p1, c1, rfl, r1, b1⟩
          rw [hX.out] at r1
          have hI1 := r1.ints
          have hO1 : Hid (0 < k + 1 → w.heap.size ≤ wr.heap.size ∧ w1.heap.size ≤ w1.heap.size ∧ OwnI 3 w1 wr.heap.size w1.heap.size (.slice p1 16 c1) 16 (diasL M (k + 1))) := fun _ => ⟨hb.size, Nat.le_refl _, r1⟩
          clear CQ r1
          go_wp2
          go_roundw
          case rel => exact ⟨k + 1, p1, c1, _, _, by omega, by go_num, rfl, hI1, hO1, below_on hb b1⟩
          case measure => simp [intOf]; omega
        · have hk4 : k = 4 := by omega
          have hnl : ¬ (k : Int) < 4 := by omega
          obtain ⟨g1, g2, g3⟩ := hO.out (by omega)
          rw [hk4, ← HE.out] at g3
          clear hk4 hI hO
          go_wp2
          go_ret
          exact ⟨_, _, rfl, ⟨owns_mono g3.1 g1, fun k hk => Nat.lt_of_lt_of_le (g3.2 k hk) g2⟩, hb⟩

end Go.Proofs.YtcmbglelllcbdalDoor
