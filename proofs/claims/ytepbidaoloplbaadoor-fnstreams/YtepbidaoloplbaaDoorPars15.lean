/-
  What the specification's Block answers, whatever bytes and count it is given: 64 bytes, or nothing. Condition: bytes all.
  What the specification's Block answers, whatever bytes and count it is given: 64 bytes, or nothing. Condition: bytes all.
  What the specification's Block answers, whatever bytes and count it is given: 64 bytes, or nothing. Condition: bytes all.
  What the specification's Block answers, whatever bytes and count it is given: 64 bytes, or nothing. Condition: bytes all.
-/
import Derived.Test.YtepbidaoloplbaaDoorPars10
import Derived.Test.YtepbidaoloplbaaDoorPars14
import Derived.Test.YtepbidaoloplbaaDoorPars11
import Derived.Test.YtepbidaoloplbaaDoorPars13
namespace Go.Proofs.YtepbidaoloplbaaDoor
open Go.RowKit
set_option maxRecDepth 100000

set_option maxRecDepth 100000 in
set_option maxHeartbeats 400000 in
theorem l5Double_any (p : Option Addr) (c : Nat) (L : List Int) (w : World) (hL : L.length = 16) (h : IntsIn w p 16 L) :
    Calls Tryd.prog 37 #[.slice p 16 c] w fun e w' => ∃ p' c', e = .returned (.slice p' 16 c') ∧ OwnI 3 w' w.heap.size w'.heap.size (.slice p' 16 c') 16 (doubleL L) ∧ Below w.heap.size w w' := by
  go_enter Tryd.func37, Tryd.ntmps37
  go_wp2_with (fail)
  have HC : Hid (∀ k, (colsL L k).length = 16) := fun k => by rw [colsL_length]; exact hL
  have HC0 : Hid (∀ k, quarterL (colsL L k) k (k + 4) (k + 8) (k + 12) = colsL L (k + 1)) := fun _ => rfl
  go_loopw [0, 3] (fun v i wr => ∃ (k : Nat) (q : Option Addr) (cc : Nat), k ≤ 4 ∧ i = .int .i64 k ∧ v = .slice q 16 cc ∧ IntsIn wr q 16 (colsL L k) ∧ Below w.heap.size w wr)
    (fun _ i _ => 4 - (intOf i).toNat)
  case atStart => exact ⟨0, p, c, by omega, rfl, rfl, h, Below.refl _ _⟩
  case round =>
    obtain ⟨k, q, cc, hk, rfl, rfl, hI, hb⟩ := hrel
    by_cases hlt : k < 4
    · have CQ := specQuarter_yes q cc (colsL L k) k (k + 4) (k + 8) (k + 12) wr (HC.out k) hI (by omega) (by omega) (by omega) (by omega) (by omega) (by omega) (by omega) (by omega) (by omega) (by omega)
      rw [HC0.out k, show ((k + 4 : Nat) : Int) = (k : Int) + 4 by omega, show ((k + 8 : Nat) : Int) = (k : Int) + 8 by omega, show ((k + 12 : Nat) : Int) = (k : Int) + 12 by omega] at CQ
      obtain ⟨X, hX⟩ : ∃ X, X = colsL L (k + 1) := ⟨_, rfl⟩
      rw [← hX] at CQ
      replace hX : Hid (X = colsL L (k + 1)) := hX
      clear hI
      go_wp2_with (fail)
      refine CQ.mono ?_
      rintro e w1 ⟨p1, c1, rfl, r1, b1⟩
      rw [hX.out] at r1
      have hI1 := r1.ints
      clear CQ r1
      go_wp2
      go_roundw
      case rel => exact ⟨k + 1, p1, c1, by omega, by go_num, rfl, hI1, below_on hb b1⟩
      case measure => simp [intOf]; omega
    · have hk4 : k = 4 := by omega
      have hnl : ¬ (k : Int) < 4 := by omega
      rw [hk4] at hI
      clear hk4
      have hD : (colsL L 4).length = 16 := HC.out 4
      have HE : Hid (doubleL L = diasL (colsL L 4) 4) := rfl
      generalize colsL L 4 = M at hI hD HE
      have HD : Hid (∀ k, (diasL M k).length = 16) := fun k => by rw [diasL_length]; exact hD
      have HD0 : Hid (∀ k, quarterL (diasL M k) k (4 + (k + 1) % 4) (8 + (k + 2) % 4) (12 + (k + 3) % 4) = diasL M (k + 1)) := fun _ => rfl
      clear HC HC0 h hL
      go_wp2_with (fail)
      obtain ⟨wo, hwo⟩ : ∃ wo, wo = wr := ⟨_, rfl⟩
      subst hwo
      go_loopw [0, 4] (fun v i wx => ∃ (k : Nat) (q : Option Addr) (cc lo hi : Nat), k ≤ 4 ∧ i = .int .i64 k ∧ v = .slice q 16 cc ∧ IntsIn wx q 16 (diasL M k) ∧ Hid (0 < k → w.heap.size ≤ lo ∧ hi ≤ wx.heap.size ∧ OwnI 3 wx lo hi (.slice q 16 cc) 16 (diasL M k)) ∧ Below w.heap.size w wx)
        (fun _ i _ => 4 - (intOf i).toNat)
      case atStart => exact ⟨0, q, cc, 0, 0, by omega, rfl, rfl, hI, fun h => absurd h (by omega), hb⟩
      case round =>
        clear hI hb
        obtain ⟨k, q, cc, lo, hh, hk, rfl, rfl, hI, hO, hb⟩ := hrel
        by_cases hlt : k < 4
        · have CQ := specQuarter_yes q cc (diasL M k) k (4 + (k + 1) % 4) (8 + (k + 2) % 4) (12 + (k + 3) % 4) wr (HD.out k) hI (by omega) (by omega) (by omega) (by omega) (by omega) (by omega) (by omega) (by omega) (by omega) (by omega)
          rw [HD0.out k] at CQ
          obtain ⟨X, hX⟩ : ∃ X, X = diasL M (k + 1) := ⟨_, rfl⟩
          rw [← hX] at CQ
          replace hX : Hid (X = diasL M (k + 1)) := hX
          rw [show ((4 + (k + 1) % 4 : Nat) : Int) = 4 + ((k : Int) + 1) % 4 by omega, show ((8 + (k + 2) % 4 : Nat) : Int) = 8 + ((k : Int) + 2) % 4 by omega, show ((12 + (k + 3) % 4 : Nat) : Int) = 12 + ((k : Int) + 3) % 4 by omega] at CQ
          have hlt' : (k : Int) < 4 := by omega
          replace CQ : Hid (Calls Tryd.prog 18 _ wr _) := CQ
          clear hI hO
          go_wp2_with (fail)
          refine CQ.out.mono ?_
          rintro e w1 ⟨p1, c1, rfl, r1, b1⟩
          rw [hX.out] at r1
          have hI1 := r1.ints
          have hO1 : Hid (0 < k + 1 → w.heap.size ≤ wr.heap.size ∧ w1.heap.size ≤ w1.heap.size ∧ OwnI 3 w1 wr.heap.size w1.heap.size (.slice p1 16 c1) 16 (diasL M (k + 1))) := fun _ => ⟨hb.size, Nat.le_refl _, r1⟩
          clear CQ r1
          go_wp2
          go_roundw
          case rel => exact ⟨k + 1, p1, c1, _, _, by omega, by go_num, rfl, hI1, hO1, below_on hb b1⟩
          case measure => simp [intOf]; omega
        · have hk4 : k = 4 := by omega
          have hnl : ¬ (k : Int) < 4 := by omega
          obtain ⟨g1, g2, g3⟩ := hO.out (by omega)
          rw [hk4, ← HE.out] at g3
          clear hk4 hI hO
          go_wp2
          go_ret
          exact ⟨_, _, rfl, ⟨owns_mono g3.1 g1, fun k hk => Nat.lt_of_lt_of_le (g3.2 k hk) g2⟩, hb⟩

end Go.Proofs.YtepbidaoloplbaaDoor

namespace Go.Proofs.YtepbidaoloplbaaDoor.Alt
open Go.RowKit
set_option maxRecDepth 100000

set_option maxRecDepth 100000 in
set_option maxHeartbeats 400000 in
theorem l5Double_any (p : Option Addr) (c : Nat) (L : List Int) (w : World) (hL : L.length = 16) (h : IntsIn w p 16 L) :
    Calls Altd.prog 37 #[.slice p 16 c] w fun e w' => ∃ p' c', e = .returned (.slice p' 16 c') ∧ OwnI 3 w' w.heap.size w'.heap.size (.slice p' 16 c') 16 (doubleL L) ∧ Below w.heap.size w w' := by
  go_enter Altd.func37, Altd.ntmps37
  go_wp2_with (fail)
  have HC : Hid (∀ k, (colsL L k).length = 16) := fun k => by rw [colsL_length]; exact hL
  have HC0 : Hid (∀ k, quarterL (colsL L k) k (k + 4) (k + 8) (k + 12) = colsL L (k + 1)) := fun _ => rfl
  go_loopw [0, 3] (fun v i wr => ∃ (k : Nat) (q : Option Addr) (cc : Nat), k ≤ 4 ∧ i = .int .i64 k ∧ v = .slice q 16 cc ∧ IntsIn wr q 16 (colsL L k) ∧ Below w.heap.size w wr)
    (fun _ i _ => 4 - (intOf i).toNat)
  case atStart => exact ⟨0, p, c, by omega, rfl, rfl, h, Below.refl _ _⟩
  case round =>
    obtain ⟨k, q, cc, hk, rfl, rfl, hI, hb⟩ := hrel
    by_cases hlt : k < 4
    · have CQ := specQuarter_yes q cc (colsL L k) k (k + 4) (k + 8) (k + 12) wr (HC.out k) hI (by omega) (by omega) (by omega) (by omega) (by omega) (by omega) (by omega) (by omega) (by omega) (by omega)
      rw [HC0.out k, show ((k + 4 : Nat) : Int) = (k : Int) + 4 by omega, show ((k + 8 : Nat) : Int) = (k : Int) + 8 by omega, show ((k + 12 : Nat) : Int) = (k : Int) + 12 by omega] at CQ
      obtain ⟨X, hX⟩ : ∃ X, X = colsL L (k + 1) := ⟨_, rfl⟩
      rw [← hX] at CQ
      replace hX : Hid (X = colsL L (k + 1)) := hX
      clear hI
      go_wp2_with (fail)
      refine CQ.mono ?_
      rintro e w1 ⟨p1, c1, rfl, r1, b1⟩
      rw [hX.out] at r1
      have hI1 := r1.ints
      clear CQ r1
      go_wp2
      go_roundw
      case rel => exact ⟨k + 1, p1, c1, by omega, by go_num, rfl, hI1, below_on hb b1⟩
      case measure => simp [intOf]; omega
    · have hk4 : k = 4 := by omega
      have hnl : ¬ (k : Int) < 4 := by omega
      rw [hk4] at hI
      clear hk4
      have hD : (colsL L 4).length = 16 := HC.out 4
      have HE : Hid (doubleL L = diasL (colsL L 4) 4) := rfl
      generalize colsL L 4 = M at hI hD HE
      have HD : Hid (∀ k, (diasL M k).length = 16) := fun k => by rw [diasL_length]; exact hD
      have HD0 : Hid (∀ k, quarterL (diasL M k) k (4 + (k + 1) % 4) (8 + (k + 2) % 4) (12 + (k + 3) % 4) = diasL M (k + 1)) := fun _ => rfl
      clear HC HC0 h hL
      go_wp2_with (fail)
      obtain ⟨wo, hwo⟩ : ∃ wo, wo = wr := ⟨_, rfl⟩
      subst hwo
      go_loopw [0, 4] (fun v i wx => ∃ (k : Nat) (q : Option Addr) (cc lo hi : Nat), k ≤ 4 ∧ i = .int .i64 k ∧ v = .slice q 16 cc ∧ IntsIn wx q 16 (diasL M k) ∧ Hid (0 < k → w.heap.size ≤ lo ∧ hi ≤ wx.heap.size ∧ OwnI 3 wx lo hi (.slice q 16 cc) 16 (diasL M k)) ∧ Below w.heap.size w wx)
        (fun _ i _ => 4 - (intOf i).toNat)
      case atStart => exact ⟨0, q, cc, 0, 0, by omega, rfl, rfl, hI, fun h => absurd h (by omega), hb⟩
      case round =>
        clear hI hb
        obtain ⟨k, q, cc, lo, hh, hk, rfl, rfl, hI, hO, hb⟩ := hrel
        by_cases hlt : k < 4
        · have CQ := specQuarter_yes q cc (diasL M k) k (4 + (k + 1) % 4) (8 + (k + 2) % 4) (12 + (k + 3) % 4) wr (HD.out k) hI (by omega) (by omega) (by omega) (by omega) (by omega) (by omega) (by omega) (by omega) (by omega) (by omega)
          rw [HD0.out k] at CQ
          obtain ⟨X, hX⟩ : ∃ X, X = diasL M (k + 1) := ⟨_, rfl⟩
          rw [← hX] at CQ
          replace hX : Hid (X = diasL M (k + 1)) := hX
          rw [show ((4 + (k + 1) % 4 : Nat) : Int) = 4 + ((k : Int) + 1) % 4 by omega, show ((8 + (k + 2) % 4 : Nat) : Int) = 8 + ((k : Int) + 2) % 4 by omega, show ((12 + (k + 3) % 4 : Nat) : Int) = 12 + ((k : Int) + 3) % 4 by omega] at CQ
          have hlt' : (k : Int) < 4 := by omega
          replace CQ : Hid (Calls Altd.prog 18 _ wr _) := CQ
          clear hI hO
          go_wp2_with (fail)
          refine CQ.out.mono ?_
          rintro e w1 ⟨p1, c1, rfl, r1, b1⟩
          rw [hX.out] at r1
          have hI1 := r1.ints
          have hO1 : Hid (0 < k + 1 → w.heap.size ≤ wr.heap.size ∧ w1.heap.size ≤ w1.heap.size ∧ OwnI 3 w1 wr.heap.size w1.heap.size (.slice p1 16 c1) 16 (diasL M (k + 1))) := fun _ => ⟨hb.size, Nat.le_refl _, r1⟩
          clear CQ r1
          go_wp2
          go_roundw
          case rel => exact ⟨k + 1, p1, c1, _, _, by omega, by go_num, rfl, hI1, hO1, below_on hb b1⟩
          case measure => simp [intOf]; omega
        · have hk4 : k = 4 := by omega
          have hnl : ¬ (k : Int) < 4 := by omega
          obtain ⟨g1, g2, g3⟩ := hO.out (by omega)
          rw [hk4, ← HE.out] at g3
          clear hk4 hI hO
          go_wp2
          go_ret
          exact ⟨_, _, rfl, ⟨owns_mono g3.1 g1, fun k hk => Nat.lt_of_lt_of_le (g3.2 k hk) g2⟩, hb⟩

end Go.Proofs.YtepbidaoloplbaaDoor.Alt

namespace Go.Proofs.YtepbidaoloplbaaDoor
open Go.RowKit
set_option maxRecDepth 100000

theorem cell_grownQ {w w' : World} {r : Nat} {p : Addr} (h : w.grownBy w' (some r)) (h1 : p.block < w.heap.size) (h2 : p.block ≠ r) : w'.cell? p = w.cell? p := by
  simp only [World.cell?, h.block p.block h1 (by simp; exact h2)]
set_option maxRecDepth 100000 in
set_option maxHeartbeats 1000000 in
theorem specBlk_yes (p q : Option Addr) (c d : Nat) (ks ns : List Int) (count : Int) (w : World) (hx : ks.length = 32) (hy : ns.length = 12) (h : BytesIn w p 32 ks) (h' : BytesIn w q 12 ns) (hb1 : ∀ x ∈ ks, 0 ≤ x ∧ x < 256) (hb2 : ∀ x ∈ ns, 0 ≤ x ∧ x < 256) (hc : 0 ≤ count ∧ count ≤ 4294967295) :
    Calls Tryd.prog 13 #[.slice p 32 c, .int .i64 count, .slice q 12 d] w fun e w' => ∃ p' c', e = .returned (.slice p' 64 c') ∧ Own 5 w' w.heap.size w'.heap.size (.slice p' 64 c') 64 (blkB ks count ns) ∧ Below w.heap.size w w' := by
  obtain ⟨i0, hi, hz0, hz1, hz2⟩ := info_parts infoInt
  have CI : ∀ X, Calls Tryd.prog 35 #[.int .i64 count, .int .i64 0, .int .i64 4294967295] X fun e w' => e = .returned (.bool true) ∧ w' = X := fun X => by
    have := l1In_is count 0 4294967295 X
    rw [decide_eq_true hc] at this
    exact this
  have C1 := fun X hX => specWords_any p 32 c false ks X (by omega) hx hX hb1
  have C2 := fun X hX => specWords_any q 12 d false ns X (by omega) hy hX hb2
  have l1 : (wordsL false ks (32 / 4)).length = 8 := by simp [wordsL]
  have l2 : (wordsL false ns (12 / 4)).length = 3 := by simp [wordsL]
  have HF : Hid ([1634760805, 857760878, 2036477234, 1797285236] ++ wordsL false ks (32 / 4) ++ [count] ++ wordsL false ns (12 / 4) = firstL ks count ns) := rfl
  have HB : Hid (bytesL false (sumsL (tenL (firstL ks count ns) 10) (firstL ks count ns) 16) = blkB ks count ns) := rfl
  have lF := firstL_length ks count ns
  simp only [Nat.reduceDiv] at C1 C2 l1 l2 HF
  generalize firstL ks count ns = F at HF HB lF
  generalize wordsL false ks 8 = W1 at C1 l1 HF
  generalize wordsL false ns 3 = W2 at C2 l2 HF
  have hown0 : (w.alloc (.cells #[.int .i64 1634760805, .int .i64 857760878, .int .i64 2036477234, .int .i64 1797285236] 3)).ownsRow w.heap.size 3 1 (.slice (some ⟨w.heap.size, 0, none⟩) 4 4) 4 (([1634760805, 857760878, 2036477234, 1797285236] : List Int).map (Value.int .i64)) :=
    ⟨rfl, .inr ⟨w.heap.size, 4, _, rfl, Nat.le_refl _, heap_alloc_new w _, Nat.le_refl _, by unfold maxLen; omega, rfl, rfl⟩⟩
  have hb0 : Below w.heap.size w (w.alloc (.cells #[.int .i64 1634760805, .int .i64 857760878, .int .i64 2036477234, .int .i64 1797285236] 3)) := (Below.refl _ _).alloc (Nat.le_refl _) _
  generalize hCC : ([1634760805, 857760878, 2036477234, 1797285236] : List Int) = CC at hown0 HF
  clear hCC
  go_enter Tryd.func13, Tryd.ntmps13
  go_wp2_with (fail)
  refine (CI _).mono ?_
  rintro e w1 ⟨rfl, hw1⟩
  obtain rfl := hw1.symm
  clear CI
  go_wp2_with (fail)
  generalize w.alloc (.cells #[.int .i64 1634760805, .int .i64 857760878, .int .i64 2036477234, .int .i64 1797285236] 3) = wa at hown0 hb0 ⊢
  refine (C1 _ (in_below h hb0)).mono ?_
  rintro e wb ⟨p2, c2, rfl, r2, b2⟩
  have ho := owns_below hown0 b2
  have hin := r2.ints
  have bel := below_on hb0 b2
  have hs := bel.size
  clear C1 hown0 hb0 r2 b2
  go_wp2_with (first | (at_builtin; refine list_spreadI hi hz0 hz1 hz2 (.tmp 26) (.tmp 28) 32 Tryd.underlying32 ho hin l1 (by omega) (by omega) (by omega) hs (by rfl) (by rfl) (by rfl) (by rfl) ?_; intro g3 cap3 w3 ho3 hb3; have bel3 := bel.trans hb3; have hs3 := bel3.size) | (at_builtin; refine list_pushI hi hz0 hz1 hz2 (.tmp 30) (.tmp 32) 32 Tryd.underlying32 _ ho3 (by omega) hs3 (by rfl) (by rfl) (by rfl) (by rfl) ?_; intro g4 cap4 w4 ho4 hb4; have bel4 := bel3.trans hb4))
  refine (C2 _ (in_below h' bel4)).mono ?_
  rintro e w5 ⟨p5, c5, rfl, r5, b5⟩
  have ho5 := owns_below ho4 b5
  have hin5 := r5.ints
  have bel5 := below_on bel4 b5
  have hs5 := bel5.size
  clear C2 ho4 r5 b5 ho3 hb3 hb4 bel3 bel4 ho hin bel
  go_wp2_with (first | (at_builtin; refine list_spreadI hi hz0 hz1 hz2 (.tmp 34) (.tmp 36) 32 Tryd.underlying32 ho5 hin5 l2 (by omega) (by omega) (by omega) hs5 (by rfl) (by rfl) (by rfl) (by rfl) ?_; intro gf cf w6 ho6 hb6; rw [HF.out] at ho6; have bel6 := bel5.trans hb6; have hF := owns_inI ho6; have hx0 : (w6.alloc (.cells #[] 3)).ownsRow w6.heap.size 3 1 (.slice (some ⟨w6.heap.size, 0, none⟩) 0 0) 0 (([] : List Int).map (Value.int .i64)) := World.ownsRow_made w6 #[] 0 (Nat.le_refl _) (by unfold maxLen; omega) rfl; have bx0 : Below w6.heap.size w6 (w6.alloc (.cells #[] 3)) := (Below.refl _ _).alloc (Nat.le_refl _) _; have hF0 := in_belowI hF bx0) | (at_builtin; refine list_spreadI hi hz0 hz1 hz2 (.tmp 38) (.tmp 39) 32 Tryd.underlying32 hx0 hF0 lF (by omega) (by omega) (by omega) (by simp) (by rfl) (by rfl) (by rfl) (by rfl) ?_; intro gx cx w7 ho7 hb7; simp only [Nat.zero_add, List.nil_append] at ho7 ⊢))
  have hgf : gf < w6.heap.size := (ho6.lt gf rfl).2
  have b67 : Below w6.heap.size w6 w7 := bx0.trans hb7
  have bel7 := below_on bel6 b67
  have hF7 := in_belowI hF b67
  have hsw := bel6.size
  clear ho6 ho5 hin5 hF hx0 bx0 hF0 hb7 hb6 bel5
  have HT : Hid (∀ k, (tenL F k).length = 16) := fun k => by rw [tenL_length]; exact lF
  have HT0 : Hid (∀ k, doubleL (tenL F k) = tenL F (k + 1)) := fun _ => rfl
  go_loopw [8, 9] (fun v i wr => ∃ (k : Nat) (q : Option Addr) (cc : Nat), k ≤ 10 ∧ i = .int .i64 k ∧ v = .slice q 16 cc ∧ wr.ownsRow w6.heap.size 3 1 (.slice q 16 cc) 16 ((tenL F k).map (Value.int .i64)) ∧ IntsIn wr (some ⟨gf, 0, none⟩) 16 F ∧ Below w.heap.size w wr)
    (fun _ i _ => 10 - (intOf i).toNat)
  case atStart => exact ⟨0, _, cx, by omega, rfl, rfl, ho7, hF7, bel7⟩
  case round =>
    clear ho7 hF7 bel7
    obtain ⟨k, q, cc, hk, rfl, rfl, hX, hF, hb⟩ := hrel
    have hw6 : w6.heap.size ≤ wr.heap.size := Nat.le_trans (Nat.le_of_lt_succ (Nat.lt_succ_of_lt ((owns_at hX (by decide)).elim fun g e => by subst e; have := hX.lt g rfl; omega))) (Nat.le_refl _)
    by_cases hlt : k < 10
    · have CQ := l5Double_any q cc (tenL F k) wr (HT.out k) (owns_inI hX)
      rw [HT0.out k] at CQ
      obtain ⟨X, hXX⟩ : ∃ X, X = tenL F (k + 1) := ⟨_, rfl⟩
      rw [← hXX] at CQ
      replace hXX : Hid (X = tenL F (k + 1)) := hXX
      have hlt' : (k : Int) < 10 := by omega
      replace CQ : Hid (Calls Tryd.prog 37 _ wr _) := CQ
      clear hX
      go_wp2_with (fail)
      refine CQ.out.mono ?_
      rintro e w8 ⟨p8, c8, rfl, r8, b8⟩
      rw [hXX.out] at r8
      have hX8 := owns_mono r8.1 hw6
      have hF8 := in_belowI hF b8
      clear CQ r8 hF
      go_wp2
      go_roundw
      case rel => exact ⟨k + 1, p8, c8, by omega, by go_num, rfl, hX8, hF8, below_on hb b8⟩
      case measure => simp [intOf]; omega
    · have hk10 : k = 10 := by omega
      have hnl : ¬ (k : Int) < 10 := by omega
      rw [hk10] at hX
      clear hk10
      have lX : (tenL F 10).length = 16 := HT.out 10
      clear HT HT0
      generalize tenL F 10 = X at hX lX HB
      obtain ⟨gx, rfl⟩ := owns_at hX (by decide)
      obtain ⟨cx, hcx⟩ : ∃ cx, cx = cc := ⟨_, rfl⟩
      subst hcx
      have hgx := hX.lt gx rfl
      have hne : gf ≠ gx := by omega
      have h0 : wr.ownsRow w6.heap.size 3 1 (.slice (some ⟨gx, 0, none⟩) 16 cx) 16 ((sumsL X F 0).map (Value.int .i64)) := hX
      clear hX
      go_wp2_with (fail)
      obtain ⟨wo, hwo⟩ : ∃ wo, wo = wr := ⟨_, rfl⟩
      subst hwo
      go_loopw [10] (fun i wx => ∃ (k : Nat), k ≤ 16 ∧ i = .int .i64 k ∧ wx.ownsRow w6.heap.size 3 1 (.slice (some ⟨gx, 0, none⟩) 16 cx) 16 ((sumsL X F k).map (Value.int .i64)) ∧ IntsIn wx (some ⟨gf, 0, none⟩) 16 F ∧ Below w.heap.size w wx)
        (fun i _ => 16 - (intOf i).toNat)
      case atStart => exact ⟨0, by omega, rfl, h0, hF, hb⟩
      case round =>
        clear h0 hF hb
        obtain ⟨k, hk, rfl, hX, hF, hb⟩ := hrel
        by_cases hlt : k < 16
        · have hkX : k < X.length := by omega
          have hlt' : (k : Int) < 16 := by omega
          obtain ⟨u, hu⟩ : ∃ u, u = X.getD k 0 := ⟨_, rfl⟩
          obtain ⟨v, hv⟩ : ∃ v, v = F.getD k 0 := ⟨_, rfl⟩
          have cD : wr.cell? ⟨gx, k, none⟩ = some (.int .i64 u) := by rw [hX.cellAt k (by omega), List.getElem?_map, sumsL_get F hkX, hu]; rfl
          have cS : wr.cell? ⟨gf, k, none⟩ = some (.int .i64 v) := by
            obtain ⟨bb, oo, e1, e2⟩ := hF (by decide)
            simp only [Option.some.injEq, Addr.mk.injEq, and_true] at e1
            obtain ⟨rfl, rfl⟩ := e1
            have := e2 k (by omega)
            rw [Nat.zero_add] at this
            rw [this, hv]
          have hz : Hid (IntKind.i64.wrap (u + v) % 4294967296 = (((wordN (X.getD k 0) + wordN (F.getD k 0)) % 4294967296 : Nat) : Int)) := by rw [Hid, ← hu, ← hv]; exact wordN_add u v
          have hgfr : gf < wr.heap.size := World.block_lt_of_cell? wr ⟨gf, k, none⟩ cS
          have HS : Hid (∀ X, Below wr.heap.size wr X → X.cell? ⟨gx, k, none⟩ = some (.int .i64 u) ∧ X.cell? ⟨gf, k, none⟩ = some (.int .i64 v)) := fun X hX' => ⟨(hX'.cell (p := ⟨gx, k, none⟩) (hX.lt gx rfl).2).trans cD, (hX'.cell (p := ⟨gf, k, none⟩) hgfr).trans cS⟩
          clear hu hv
          go_wp2_with (fail)
          refine wp_region_noPanic ?_
          refine wp_region_K 13 (fun X => X.cell? ⟨gx, k, none⟩ = some (.int .i64 u) ∧ X.cell? ⟨gf, k, none⟩ = some (.int .i64 v)) (by kernel_rfl) ?_
          have hHeld := HS.out _ (below_drew0 wr)
          refine anyK_take (i := 0) (v := .slice (some ⟨gx, 0, none⟩) 16 cx) rfl rfl (by kernel_rfl) (by kernel_rfl) (by kernel_rfl) (by kernel_rfl) (by kernel_rfl) (fun _ _ _ h => h) (Or.inl ⟨by rfl, fun w hSw => by ((try dsimp only at hSw); go_simp)⟩) hHeld ?_
          simp only [Act.put, List.getElem_toArray, List.getElem_cons_zero, List.setIfInBounds_toArray, List.set_cons_zero, List.set_cons_succ]
          refine anyK_take (i := 1) (v := .int .i64 (k : Int)) rfl rfl (by kernel_rfl) (by kernel_rfl) (by kernel_rfl) (by kernel_rfl) (by kernel_rfl) (fun _ _ _ h => h) (Or.inl ⟨by rfl, fun w hSw => by ((try dsimp only at hSw); go_simp)⟩) hHeld ?_
          simp only [Act.put, List.getElem_toArray, List.getElem_cons_zero, List.getElem_cons_succ, List.setIfInBounds_toArray, List.set_cons_zero, List.set_cons_succ]
          refine anyK_take (i := 2) (v := .slice (some ⟨gx, 0, none⟩) 16 cx) rfl rfl (by kernel_rfl) (by kernel_rfl) (by kernel_rfl) (by kernel_rfl) (by kernel_rfl) (fun _ _ _ h => h) (Or.inl ⟨by rfl, fun w hSw => by ((try dsimp only at hSw); go_simp)⟩) hHeld ?_
          simp only [Act.put, List.getElem_toArray, List.getElem_cons_zero, List.getElem_cons_succ, List.setIfInBounds_toArray, List.set_cons_zero, List.set_cons_succ]
          refine anyK_take (i := 3) (v := .int .i64 (k : Int)) rfl rfl (by kernel_rfl) (by kernel_rfl) (by kernel_rfl) (by kernel_rfl) (by kernel_rfl) (fun _ _ _ h => h) (Or.inl ⟨by rfl, fun w hSw => by ((try dsimp only at hSw); go_simp)⟩) hHeld ?_
          simp only [Act.put, List.getElem_toArray, List.getElem_cons_zero, List.getElem_cons_succ, List.setIfInBounds_toArray, List.set_cons_zero, List.set_cons_succ]
          refine anyK_take (i := 4) (v := .pointer (some ⟨gx, k, none⟩)) rfl rfl (by kernel_rfl) (by kernel_rfl) (by kernel_rfl) (by kernel_rfl) (by kernel_rfl) (fun _ _ _ h => h) (Or.inl ⟨by rfl, fun w hSw => by ((try dsimp only at hSw); go_simp)⟩) hHeld ?_
          simp only [Act.put, List.getElem_toArray, List.getElem_cons_zero, List.getElem_cons_succ, List.setIfInBounds_toArray, List.set_cons_zero, List.set_cons_succ]
          refine anyK_take (i := 5) (v := .int .i64 u) rfl rfl (by kernel_rfl) (by kernel_rfl) (by kernel_rfl) (by kernel_rfl) (by kernel_rfl) (fun _ _ _ h => h) (Or.inl ⟨by rfl, fun w hSw => by (obtain ⟨hSw1, hSw2⟩ := hSw; go_simp)⟩) hHeld ?_
          simp only [Act.put, List.getElem_toArray, List.getElem_cons_zero, List.getElem_cons_succ, List.setIfInBounds_toArray, List.set_cons_zero, List.set_cons_succ]
          refine anyK_take (i := 6) (v := .slice (some ⟨gf, 0, none⟩) 16 cf) rfl rfl (by kernel_rfl) (by kernel_rfl) (by kernel_rfl) (by kernel_rfl) (by kernel_rfl) (fun _ _ _ h => h) (Or.inl ⟨by rfl, fun w hSw => by ((try dsimp only at hSw); go_simp)⟩) hHeld ?_
          simp only [Act.put, List.getElem_toArray, List.getElem_cons_zero, List.getElem_cons_succ, List.setIfInBounds_toArray, List.set_cons_zero, List.set_cons_succ]
          refine anyK_take (i := 7) (v := .int .i64 (k : Int)) rfl rfl (by kernel_rfl) (by kernel_rfl) (by kernel_rfl) (by kernel_rfl) (by kernel_rfl) (fun _ _ _ h => h) (Or.inl ⟨by rfl, fun w hSw => by ((try dsimp only at hSw); go_simp)⟩) hHeld ?_
          simp only [Act.put, List.getElem_toArray, List.getElem_cons_zero, List.getElem_cons_succ, List.setIfInBounds_toArray, List.set_cons_zero, List.set_cons_succ]
          refine anyK_take (i := 8) (v := .pointer (some ⟨gf, k, none⟩)) rfl rfl (by kernel_rfl) (by kernel_rfl) (by kernel_rfl) (by kernel_rfl) (by kernel_rfl) (fun _ _ _ h => h) (Or.inl ⟨by rfl, fun w hSw => by ((try dsimp only at hSw); go_simp)⟩) hHeld ?_
          simp only [Act.put, List.getElem_toArray, List.getElem_cons_zero, List.getElem_cons_succ, List.setIfInBounds_toArray, List.set_cons_zero, List.set_cons_succ]
          refine anyK_take (i := 9) (v := .int .i64 v) rfl rfl (by kernel_rfl) (by kernel_rfl) (by kernel_rfl) (by kernel_rfl) (by kernel_rfl) (fun _ _ _ h => h) (Or.inl ⟨by rfl, fun w hSw => by (obtain ⟨hSw1, hSw2⟩ := hSw; go_simp)⟩) hHeld ?_
          simp only [Act.put, List.getElem_toArray, List.getElem_cons_zero, List.getElem_cons_succ, List.setIfInBounds_toArray, List.set_cons_zero, List.set_cons_succ]
          refine anyK_take (i := 10) (v := .int .i64 (IntKind.i64.wrap (u + v))) rfl rfl (by kernel_rfl) (by kernel_rfl) (by kernel_rfl) (by kernel_rfl) (by kernel_rfl) (fun _ _ _ h => h) (Or.inl ⟨by rfl, fun w hSw => by ((try dsimp only at hSw); go_simp)⟩) hHeld ?_
          simp only [Act.put, List.getElem_toArray, List.getElem_cons_zero, List.getElem_cons_succ, List.setIfInBounds_toArray, List.set_cons_zero, List.set_cons_succ]
          refine anyK_one (i := 11) (by kernel_rfl) rfl (fun K hK => ?_)
          go_simp
          refine (specWord_any _ _).mono ?_
          rintro e w9 ⟨rfl, b9'⟩
          have b9 := below_on (below_drew0 wr) b9'
          go_wp2_with (fail)
          refine hK.out _ _ (fun _ => HS.out _ b9) ?_
          clear hK K
          have hHeld9 := HS.out _ b9
          refine anyK_take (i := 12) (v := .pointer (some ⟨gx, k, none⟩)) rfl rfl (by kernel_rfl) (by kernel_rfl) (by kernel_rfl) (by kernel_rfl) (by kernel_rfl) (fun _ _ _ h => h) (Or.inl ⟨by rfl, fun w hSw => by ((try dsimp only at hSw); go_simp)⟩) hHeld9 ?_
          simp only [Act.put, List.getElem_toArray, List.getElem_cons_zero, List.getElem_cons_succ, List.setIfInBounds_toArray, List.set_cons_zero, List.set_cons_succ]
          have cw9 := hHeld9.1
          have fz9 := (owns_below hX b9).frozenAt k
          have st := (owns_below hX b9).stored k (.int .i64 (IntKind.i64.wrap (u + v) % 4294967296))
          rw [← List.map_set, sumsL_set F hkX _ hz.out] at st
          have inF := in_belowI hF b9
          have inF2 : IntsIn (w9.setCell ⟨gx, k, none⟩ (.int .i64 (IntKind.i64.wrap (u + v) % 4294967296))) (some ⟨gf, 0, none⟩) 16 F := fun h0 => by
            obtain ⟨bb, oo, e1, e2⟩ := inF h0
            simp only [Option.some.injEq, Addr.mk.injEq, and_true] at e1
            obtain ⟨rfl, rfl⟩ := e1
            exact ⟨_, _, rfl, fun i hi => (cell_grownQ (p := ⟨gf, 0 + i, none⟩) st.2 (World.block_lt_of_cell? w9 ⟨gf, 0 + i, none⟩ (e2 i hi)) (show gf ≠ gx by omega)).trans (e2 i hi)⟩
          have belN : Below w.heap.size w (w9.setCell ⟨gx, k, none⟩ (.int .i64 (IntKind.i64.wrap (u + v) % 4294967296))) := (below_on hb b9).grown st.2 (below_on hb b9).size (fun i hi => by cases hi; omega)
          refine anyK_one (i := 13) (by kernel_rfl) rfl (fun K hK => ?_)
          go_simp
          refine hK.out _ _ (fun h => by cases h) ?_
          clear hK K
          refine anyK_done (by kernel_rfl) ?_ _
          refine NoPanic.normal ?_
          have stN := st.1
          clear hX hF hb HS b9 b9' hHeld hHeld9 cw9 fz9 st inF cD cS
          generalize w9.setCell ⟨gx, k, none⟩ (.int .i64 (IntKind.i64.wrap (u + v) % 4294967296)) = wc at stN inF2 belN ⊢
          go_wp2
          go_roundw
          case rel => exact ⟨k + 1, by omega, by go_num, stN, inF2, belN⟩
          case measure => simp [intOf]; omega
        · have hk16 : k = 16 := by omega
          have hnl2 : ¬ (k : Int) < 16 := by omega
          rw [hk16] at hX
          have CW := specWordBytes_any (some ⟨gx, 0, none⟩) 16 cx false (sumsL X F 16) wr (by omega) (by rw [sumsL_length F (by omega)]; exact lX) (owns_inI hX)
          rw [HB.out] at CW
          clear hk16
          replace CW : Hid (Calls Tryd.prog 39 _ wr _) := CW
          clear hX hF
          go_wp2_with (fail)
          refine CW.out.mono ?_
          rintro e w8 ⟨p8, c8, rfl, r8, b8⟩
          have hsr := hb.size
          go_wp2
          go_ret
          exact ⟨_, _, rfl, ⟨owns_mono r8.1 hsr, r8.2⟩, below_on hb b8⟩

theorem specBlk_no (p q : Option Addr) (n m c d : Nat) (count : Int) (w : World) (hno : ¬ blkOk n m count) :
    Calls Tryd.prog 13 #[.slice p n c, .int .i64 count, .slice q m d] w fun e w' => ∃ p' c', e = .returned (.slice p' 0 c') ∧ Own 5 w' w.heap.size w'.heap.size (.slice p' 0 c') 0 [] ∧ Below w.heap.size w w' := by
  unfold blkOk at hno
  by_cases h1 : n = 32
  rotate_left
  · have z1 : ((n : Int) != 32) = true := by simp; omega
    go_enter Tryd.func13, Tryd.ntmps13
    go_wp2
    go_ret
    exact ⟨_, _, rfl, .of (World.ownsRow_made w #[] 0 (Nat.le_refl _) (by unfold maxLen; omega) rfl), (Below.refl _ _).alloc (Nat.le_refl _) _⟩
  subst h1
  by_cases h2 : m = 12
  rotate_left
  · have z2 : ((m : Int) != 12) = true := by simp; omega
    go_enter Tryd.func13, Tryd.ntmps13
    go_wp2
    go_ret
    exact ⟨_, _, rfl, .of (World.ownsRow_made w #[] 0 (Nat.le_refl _) (by unfold maxLen; omega) rfl), (Below.refl _ _).alloc (Nat.le_refl _) _⟩
  subst h2
  have hc : ¬ (0 ≤ count ∧ count ≤ 4294967295) := fun e => hno ⟨rfl, rfl, e⟩
  have CI := l1In_is count 0 4294967295 w
  rw [decide_eq_false hc] at CI
  go_enter Tryd.func13, Tryd.ntmps13
  go_wp2_with (fail)
  refine CI.mono ?_
  rintro e w1 ⟨rfl, rfl⟩
  go_wp2
  go_ret
  exact ⟨_, _, rfl, .of (World.ownsRow_made _ #[] 0 (Nat.le_refl _) (by unfold maxLen; omega) rfl), (Below.refl _ _).alloc (Nat.le_refl _) _⟩
theorem specBlk_any (p q : Option Addr) (n m c d : Nat) (count : Int) (ks ns : List Int) (w : World) (hx : ks.length = n) (hy : ns.length = m) (h : BytesIn w p n ks) (h' : BytesIn w q m ns) (hb1 : ∀ x ∈ ks, 0 ≤ x ∧ x < 256) (hb2 : ∀ x ∈ ns, 0 ≤ x ∧ x < 256) :
    Calls Tryd.prog 13 #[.slice p n c, .int .i64 count, .slice q m d] w fun e w' => ∃ p' c', e = .returned (.slice p' (blkN n m count) c') ∧ Own 5 w' w.heap.size w'.heap.size (.slice p' (blkN n m count) c') (blkN n m count) (blkL ks count ns) ∧ Below w.heap.size w w' := by
  unfold blkN blkL
  rw [hx, hy]
  by_cases hok : blkOk n m count
  · rw [if_pos hok, if_pos hok]
    obtain ⟨rfl, rfl, hc⟩ := hok
    exact specBlk_yes p q c d ks ns count w hx hy h h' hb1 hb2 hc
  · rw [if_neg hok, if_neg hok]
    exact specBlk_no p q n m c d count w hok

end Go.Proofs.YtepbidaoloplbaaDoor

namespace Go.Proofs.YtepbidaoloplbaaDoor.Alt
open Go.RowKit
set_option maxRecDepth 100000

set_option maxRecDepth 100000 in
set_option maxHeartbeats 1000000 in
theorem specBlk_yes (p q : Option Addr) (c d : Nat) (ks ns : List Int) (count : Int) (w : World) (hx : ks.length = 32) (hy : ns.length = 12) (h : BytesIn w p 32 ks) (h' : BytesIn w q 12 ns) (hb1 : ∀ x ∈ ks, 0 ≤ x ∧ x < 256) (hb2 : ∀ x ∈ ns, 0 ≤ x ∧ x < 256) (hc : 0 ≤ count ∧ count ≤ 4294967295) :
    Calls Altd.prog 13 #[.slice p 32 c, .int .i64 count, .slice q 12 d] w fun e w' => ∃ p' c', e = .returned (.slice p' 64 c') ∧ Own 5 w' w.heap.size w'.heap.size (.slice p' 64 c') 64 (blkB ks count ns) ∧ Below w.heap.size w w' := by
  obtain ⟨i0, hi, hz0, hz1, hz2⟩ := info_parts infoInt
  have CI : ∀ X, Calls Altd.prog 35 #[.int .i64 count, .int .i64 0, .int .i64 4294967295] X fun e w' => e = .returned (.bool true) ∧ w' = X := fun X => by
    have := l1In_is count 0 4294967295 X
    rw [decide_eq_true hc] at this
    exact this
  have C1 := fun X hX => specWords_any p 32 c false ks X (by omega) hx hX hb1
  have C2 := fun X hX => specWords_any q 12 d false ns X (by omega) hy hX hb2
  have l1 : (wordsL false ks (32 / 4)).length = 8 := by simp [wordsL]
  have l2 : (wordsL false ns (12 / 4)).length = 3 := by simp [wordsL]
  have HF : Hid ([1634760805, 857760878, 2036477234, 1797285236] ++ wordsL false ks (32 / 4) ++ [count] ++ wordsL false ns (12 / 4) = firstL ks count ns) := rfl
  have HB : Hid (bytesL false (sumsL (tenL (firstL ks count ns) 10) (firstL ks count ns) 16) = blkB ks count ns) := rfl
  have lF := firstL_length ks count ns
  simp only [Nat.reduceDiv] at C1 C2 l1 l2 HF
  generalize firstL ks count ns = F at HF HB lF
  generalize wordsL false ks 8 = W1 at C1 l1 HF
  generalize wordsL false ns 3 = W2 at C2 l2 HF
  have hown0 : (w.alloc (.cells #[.int .i64 1634760805, .int .i64 857760878, .int .i64 2036477234, .int .i64 1797285236] 3)).ownsRow w.heap.size 3 1 (.slice (some ⟨w.heap.size, 0, none⟩) 4 4) 4 (([1634760805, 857760878, 2036477234, 1797285236] : List Int).map (Value.int .i64)) :=
    ⟨rfl, .inr ⟨w.heap.size, 4, _, rfl, Nat.le_refl _, heap_alloc_new w _, Nat.le_refl _, by unfold maxLen; omega, rfl, rfl⟩⟩
  have hb0 : Below w.heap.size w (w.alloc (.cells #[.int .i64 1634760805, .int .i64 857760878, .int .i64 2036477234, .int .i64 1797285236] 3)) := (Below.refl _ _).alloc (Nat.le_refl _) _
  generalize hCC : ([1634760805, 857760878, 2036477234, 1797285236] : List Int) = CC at hown0 HF
  clear hCC
  go_enter Altd.func13, Altd.ntmps13
  go_wp2_with (fail)
  refine (CI _).mono ?_
  rintro e w1 ⟨rfl, hw1⟩
  obtain rfl := hw1.symm
  clear CI
  go_wp2_with (fail)
  generalize w.alloc (.cells #[.int .i64 1634760805, .int .i64 857760878, .int .i64 2036477234, .int .i64 1797285236] 3) = wa at hown0 hb0 ⊢
  refine (C1 _ (in_below h hb0)).mono ?_
  rintro e wb ⟨p2, c2, rfl, r2, b2⟩
  have ho := owns_below hown0 b2
  have hin := r2.ints
  have bel := below_on hb0 b2
  have hs := bel.size
  clear C1 hown0 hb0 r2 b2
  go_wp2_with (first | (at_builtin; refine list_spreadI hi hz0 hz1 hz2 (.tmp 26) (.tmp 28) 32 Altd.underlying32 ho hin l1 (by omega) (by omega) (by omega) hs (by rfl) (by rfl) (by rfl) (by rfl) ?_; intro g3 cap3 w3 ho3 hb3; have bel3 := bel.trans hb3; have hs3 := bel3.size) | (at_builtin; refine list_pushI hi hz0 hz1 hz2 (.tmp 30) (.tmp 32) 32 Altd.underlying32 _ ho3 (by omega) hs3 (by rfl) (by rfl) (by rfl) (by rfl) ?_; intro g4 cap4 w4 ho4 hb4; have bel4 := bel3.trans hb4))
  refine (C2 _ (in_below h' bel4)).mono ?_
  rintro e w5 ⟨p5, c5, rfl, r5, b5⟩
  have ho5 := owns_below ho4 b5
  have hin5 := r5.ints
  have bel5 := below_on bel4 b5
  have hs5 := bel5.size
  clear C2 ho4 r5 b5 ho3 hb3 hb4 bel3 bel4 ho hin bel
  go_wp2_with (first | (at_builtin; refine list_spreadI hi hz0 hz1 hz2 (.tmp 34) (.tmp 36) 32 Altd.underlying32 ho5 hin5 l2 (by omega) (by omega) (by omega) hs5 (by rfl) (by rfl) (by rfl) (by rfl) ?_; intro gf cf w6 ho6 hb6; rw [HF.out] at ho6; have bel6 := bel5.trans hb6; have hF := owns_inI ho6; have hx0 : (w6.alloc (.cells #[] 3)).ownsRow w6.heap.size 3 1 (.slice (some ⟨w6.heap.size, 0, none⟩) 0 0) 0 (([] : List Int).map (Value.int .i64)) := World.ownsRow_made w6 #[] 0 (Nat.le_refl _) (by unfold maxLen; omega) rfl; have bx0 : Below w6.heap.size w6 (w6.alloc (.cells #[] 3)) := (Below.refl _ _).alloc (Nat.le_refl _) _; have hF0 := in_belowI hF bx0) | (at_builtin; refine list_spreadI hi hz0 hz1 hz2 (.tmp 38) (.tmp 39) 32 Altd.underlying32 hx0 hF0 lF (by omega) (by omega) (by omega) (by simp) (by rfl) (by rfl) (by rfl) (by rfl) ?_; intro gx cx w7 ho7 hb7; simp only [Nat.zero_add, List.nil_append] at ho7 ⊢))
  have hgf : gf < w6.heap.size := (ho6.lt gf rfl).2
  have b67 : Below w6.heap.size w6 w7 := bx0.trans hb7
  have bel7 := below_on bel6 b67
  have hF7 := in_belowI hF b67
  have hsw := bel6.size
  clear ho6 ho5 hin5 hF hx0 bx0 hF0 hb7 hb6 bel5
  have HT : Hid (∀ k, (tenL F k).length = 16) := fun k => by rw [tenL_length]; exact lF
  have HT0 : Hid (∀ k, doubleL (tenL F k) = tenL F (k + 1)) := fun _ => rfl
  go_loopw [8, 9] (fun v i wr => ∃ (k : Nat) (q : Option Addr) (cc : Nat), k ≤ 10 ∧ i = .int .i64 k ∧ v = .slice q 16 cc ∧ wr.ownsRow w6.heap.size 3 1 (.slice q 16 cc) 16 ((tenL F k).map (Value.int .i64)) ∧ IntsIn wr (some ⟨gf, 0, none⟩) 16 F ∧ Below w.heap.size w wr)
    (fun _ i _ => 10 - (intOf i).toNat)
  case atStart => exact ⟨0, _, cx, by omega, rfl, rfl, ho7, hF7, bel7⟩
  case round =>
    clear ho7 hF7 bel7
    obtain ⟨k, q, cc, hk, rfl, rfl, hX, hF, hb⟩ := hrel
    have hw6 : w6.heap.size ≤ wr.heap.size := Nat.le_trans (Nat.le_of_lt_succ (Nat.lt_succ_of_lt ((owns_at hX (by decide)).elim fun g e => by subst e; have := hX.lt g rfl; omega))) (Nat.le_refl _)
    by_cases hlt : k < 10
    · have CQ := l5Double_any q cc (tenL F k) wr (HT.out k) (owns_inI hX)
      rw [HT0.out k] at CQ
      obtain ⟨X, hXX⟩ : ∃ X, X = tenL F (k + 1) := ⟨_, rfl⟩
      rw [← hXX] at CQ
      replace hXX : Hid (X = tenL F (k + 1)) := hXX
      have hlt' : (k : Int) < 10 := by omega
      replace CQ : Hid (Calls Altd.prog 37 _ wr _) := CQ
      clear hX
      go_wp2_with (fail)
      refine CQ.out.mono ?_
      rintro e w8 ⟨p8, c8, rfl, r8, b8⟩
      rw [hXX.out] at r8
      have hX8 := owns_mono r8.1 hw6
      have hF8 := in_belowI hF b8
      clear CQ r8 hF
      go_wp2
      go_roundw
      case rel => exact ⟨k + 1, p8, c8, by omega, by go_num, rfl, hX8, hF8, below_on hb b8⟩
      case measure => simp [intOf]; omega
    · have hk10 : k = 10 := by omega
      have hnl : ¬ (k : Int) < 10 := by omega
      rw [hk10] at hX
      clear hk10
      have lX : (tenL F 10).length = 16 := HT.out 10
      clear HT HT0
      generalize tenL F 10 = X at hX lX HB
      obtain ⟨gx, rfl⟩ := owns_at hX (by decide)
      obtain ⟨cx, hcx⟩ : ∃ cx, cx = cc := ⟨_, rfl⟩
      subst hcx
      have hgx := hX.lt gx rfl
      have hne : gf ≠ gx := by omega
      have h0 : wr.ownsRow w6.heap.size 3 1 (.slice (some ⟨gx, 0, none⟩) 16 cx) 16 ((sumsL X F 0).map (Value.int .i64)) := hX
      clear hX
      go_wp2_with (fail)
      obtain ⟨wo, hwo⟩ : ∃ wo, wo = wr := ⟨_, rfl⟩
      subst hwo
      go_loopw [10] (fun i wx => ∃ (k : Nat), k ≤ 16 ∧ i = .int .i64 k ∧ wx.ownsRow w6.heap.size 3 1 (.slice (some ⟨gx, 0, none⟩) 16 cx) 16 ((sumsL X F k).map (Value.int .i64)) ∧ IntsIn wx (some ⟨gf, 0, none⟩) 16 F ∧ Below w.heap.size w wx)
        (fun i _ => 16 - (intOf i).toNat)
      case atStart => exact ⟨0, by omega, rfl, h0, hF, hb⟩
      case round =>
        clear h0 hF hb
        obtain ⟨k, hk, rfl, hX, hF, hb⟩ := hrel
        by_cases hlt : k < 16
        · have hkX : k < X.length := by omega
          have hlt' : (k : Int) < 16 := by omega
          obtain ⟨u, hu⟩ : ∃ u, u = X.getD k 0 := ⟨_, rfl⟩
          obtain ⟨v, hv⟩ : ∃ v, v = F.getD k 0 := ⟨_, rfl⟩
          have cD : wr.cell? ⟨gx, k, none⟩ = some (.int .i64 u) := by rw [hX.cellAt k (by omega), List.getElem?_map, sumsL_get F hkX, hu]; rfl
          have cS : wr.cell? ⟨gf, k, none⟩ = some (.int .i64 v) := by
            obtain ⟨bb, oo, e1, e2⟩ := hF (by decide)
            simp only [Option.some.injEq, Addr.mk.injEq, and_true] at e1
            obtain ⟨rfl, rfl⟩ := e1
            have := e2 k (by omega)
            rw [Nat.zero_add] at this
            rw [this, hv]
          have hz : Hid (IntKind.i64.wrap (u + v) % 4294967296 = (((wordN (X.getD k 0) + wordN (F.getD k 0)) % 4294967296 : Nat) : Int)) := by rw [Hid, ← hu, ← hv]; exact wordN_add u v
          have hgfr : gf < wr.heap.size := World.block_lt_of_cell? wr ⟨gf, k, none⟩ cS
          have HS : Hid (∀ X, Below wr.heap.size wr X → X.cell? ⟨gx, k, none⟩ = some (.int .i64 u) ∧ X.cell? ⟨gf, k, none⟩ = some (.int .i64 v)) := fun X hX' => ⟨(hX'.cell (p := ⟨gx, k, none⟩) (hX.lt gx rfl).2).trans cD, (hX'.cell (p := ⟨gf, k, none⟩) hgfr).trans cS⟩
          clear hu hv
          go_wp2_with (fail)
          refine wp_region_noPanic ?_
          refine wp_region_K 13 (fun X => X.cell? ⟨gx, k, none⟩ = some (.int .i64 u) ∧ X.cell? ⟨gf, k, none⟩ = some (.int .i64 v)) (by kernel_rfl) ?_
          have hHeld := HS.out _ (below_drew0 wr)
          refine anyK_take (i := 0) (v := .slice (some ⟨gx, 0, none⟩) 16 cx) rfl rfl (by kernel_rfl) (by kernel_rfl) (by kernel_rfl) (by kernel_rfl) (by kernel_rfl) (fun _ _ _ h => h) (Or.inl ⟨by rfl, fun w hSw => by ((try dsimp only at hSw); go_simp)⟩) hHeld ?_
          simp only [Act.put, List.getElem_toArray, List.getElem_cons_zero, List.setIfInBounds_toArray, List.set_cons_zero, List.set_cons_succ]
          refine anyK_take (i := 1) (v := .int .i64 (k : Int)) rfl rfl (by kernel_rfl) (by kernel_rfl) (by kernel_rfl) (by kernel_rfl) (by kernel_rfl) (fun _ _ _ h => h) (Or.inl ⟨by rfl, fun w hSw => by ((try dsimp only at hSw); go_simp)⟩) hHeld ?_
          simp only [Act.put, List.getElem_toArray, List.getElem_cons_zero, List.getElem_cons_succ, List.setIfInBounds_toArray, List.set_cons_zero, List.set_cons_succ]
          refine anyK_take (i := 2) (v := .slice (some ⟨gx, 0, none⟩) 16 cx) rfl rfl (by kernel_rfl) (by kernel_rfl) (by kernel_rfl) (by kernel_rfl) (by kernel_rfl) (fun _ _ _ h => h) (Or.inl ⟨by rfl, fun w hSw => by ((try dsimp only at hSw); go_simp)⟩) hHeld ?_
          simp only [Act.put, List.getElem_toArray, List.getElem_cons_zero, List.getElem_cons_succ, List.setIfInBounds_toArray, List.set_cons_zero, List.set_cons_succ]
          refine anyK_take (i := 3) (v := .int .i64 (k : Int)) rfl rfl (by kernel_rfl) (by kernel_rfl) (by kernel_rfl) (by kernel_rfl) (by kernel_rfl) (fun _ _ _ h => h) (Or.inl ⟨by rfl, fun w hSw => by ((try dsimp only at hSw); go_simp)⟩) hHeld ?_
          simp only [Act.put, List.getElem_toArray, List.getElem_cons_zero, List.getElem_cons_succ, List.setIfInBounds_toArray, List.set_cons_zero, List.set_cons_succ]
          refine anyK_take (i := 4) (v := .pointer (some ⟨gx, k, none⟩)) rfl rfl (by kernel_rfl) (by kernel_rfl) (by kernel_rfl) (by kernel_rfl) (by kernel_rfl) (fun _ _ _ h => h) (Or.inl ⟨by rfl, fun w hSw => by ((try dsimp only at hSw); go_simp)⟩) hHeld ?_
          simp only [Act.put, List.getElem_toArray, List.getElem_cons_zero, List.getElem_cons_succ, List.setIfInBounds_toArray, List.set_cons_zero, List.set_cons_succ]
          refine anyK_take (i := 5) (v := .int .i64 u) rfl rfl (by kernel_rfl) (by kernel_rfl) (by kernel_rfl) (by kernel_rfl) (by kernel_rfl) (fun _ _ _ h => h) (Or.inl ⟨by rfl, fun w hSw => by (obtain ⟨hSw1, hSw2⟩ := hSw; go_simp)⟩) hHeld ?_
          simp only [Act.put, List.getElem_toArray, List.getElem_cons_zero, List.getElem_cons_succ, List.setIfInBounds_toArray, List.set_cons_zero, List.set_cons_succ]
          refine anyK_take (i := 6) (v := .slice (some ⟨gf, 0, none⟩) 16 cf) rfl rfl (by kernel_rfl) (by kernel_rfl) (by kernel_rfl) (by kernel_rfl) (by kernel_rfl) (fun _ _ _ h => h) (Or.inl ⟨by rfl, fun w hSw => by ((try dsimp only at hSw); go_simp)⟩) hHeld ?_
          simp only [Act.put, List.getElem_toArray, List.getElem_cons_zero, List.getElem_cons_succ, List.setIfInBounds_toArray, List.set_cons_zero, List.set_cons_succ]
          refine anyK_take (i := 7) (v := .int .i64 (k : Int)) rfl rfl (by kernel_rfl) (by kernel_rfl) (by kernel_rfl) (by kernel_rfl) (by kernel_rfl) (fun _ _ _ h => h) (Or.inl ⟨by rfl, fun w hSw => by ((try dsimp only at hSw); go_simp)⟩) hHeld ?_
          simp only [Act.put, List.getElem_toArray, List.getElem_cons_zero, List.getElem_cons_succ, List.setIfInBounds_toArray, List.set_cons_zero, List.set_cons_succ]
          refine anyK_take (i := 8) (v := .pointer (some ⟨gf, k, none⟩)) rfl rfl (by kernel_rfl) (by kernel_rfl) (by kernel_rfl) (by kernel_rfl) (by kernel_rfl) (fun _ _ _ h => h) (Or.inl ⟨by rfl, fun w hSw => by ((try dsimp only at hSw); go_simp)⟩) hHeld ?_
          simp only [Act.put, List.getElem_toArray, List.getElem_cons_zero, List.getElem_cons_succ, List.setIfInBounds_toArray, List.set_cons_zero, List.set_cons_succ]
          refine anyK_take (i := 9) (v := .int .i64 v) rfl rfl (by kernel_rfl) (by kernel_rfl) (by kernel_rfl) (by kernel_rfl) (by kernel_rfl) (fun _ _ _ h => h) (Or.inl ⟨by rfl, fun w hSw => by (obtain ⟨hSw1, hSw2⟩ := hSw; go_simp)⟩) hHeld ?_
          simp only [Act.put, List.getElem_toArray, List.getElem_cons_zero, List.getElem_cons_succ, List.setIfInBounds_toArray, List.set_cons_zero, List.set_cons_succ]
          refine anyK_take (i := 10) (v := .int .i64 (IntKind.i64.wrap (u + v))) rfl rfl (by kernel_rfl) (by kernel_rfl) (by kernel_rfl) (by kernel_rfl) (by kernel_rfl) (fun _ _ _ h => h) (Or.inl ⟨by rfl, fun w hSw => by ((try dsimp only at hSw); go_simp)⟩) hHeld ?_
          simp only [Act.put, List.getElem_toArray, List.getElem_cons_zero, List.getElem_cons_succ, List.setIfInBounds_toArray, List.set_cons_zero, List.set_cons_succ]
          refine anyK_one (i := 11) (by kernel_rfl) rfl (fun K hK => ?_)
          go_simp
          refine (specWord_any _ _).mono ?_
          rintro e w9 ⟨rfl, b9'⟩
          have b9 := below_on (below_drew0 wr) b9'
          go_wp2_with (fail)
          refine hK.out _ _ (fun _ => HS.out _ b9) ?_
          clear hK K
          have hHeld9 := HS.out _ b9
          refine anyK_take (i := 12) (v := .pointer (some ⟨gx, k, none⟩)) rfl rfl (by kernel_rfl) (by kernel_rfl) (by kernel_rfl) (by kernel_rfl) (by kernel_rfl) (fun _ _ _ h => h) (Or.inl ⟨by rfl, fun w hSw => by ((try dsimp only at hSw); go_simp)⟩) hHeld9 ?_
          simp only [Act.put, List.getElem_toArray, List.getElem_cons_zero, List.getElem_cons_succ, List.setIfInBounds_toArray, List.set_cons_zero, List.set_cons_succ]
          have cw9 := hHeld9.1
          have fz9 := (owns_below hX b9).frozenAt k
          have st := (owns_below hX b9).stored k (.int .i64 (IntKind.i64.wrap (u + v) % 4294967296))
          rw [← List.map_set, sumsL_set F hkX _ hz.out] at st
          have inF := in_belowI hF b9
          have inF2 : IntsIn (w9.setCell ⟨gx, k, none⟩ (.int .i64 (IntKind.i64.wrap (u + v) % 4294967296))) (some ⟨gf, 0, none⟩) 16 F := fun h0 => by
            obtain ⟨bb, oo, e1, e2⟩ := inF h0
            simp only [Option.some.injEq, Addr.mk.injEq, and_true] at e1
            obtain ⟨rfl, rfl⟩ := e1
            exact ⟨_, _, rfl, fun i hi => (cell_grownQ (p := ⟨gf, 0 + i, none⟩) st.2 (World.block_lt_of_cell? w9 ⟨gf, 0 + i, none⟩ (e2 i hi)) (show gf ≠ gx by omega)).trans (e2 i hi)⟩
          have belN : Below w.heap.size w (w9.setCell ⟨gx, k, none⟩ (.int .i64 (IntKind.i64.wrap (u + v) % 4294967296))) := (below_on hb b9).grown st.2 (below_on hb b9).size (fun i hi => by cases hi; omega)
          refine anyK_one (i := 13) (by kernel_rfl) rfl (fun K hK => ?_)
          go_simp
          refine hK.out _ _ (fun h => by cases h) ?_
          clear hK K
          refine anyK_done (by kernel_rfl) ?_ _
          refine NoPanic.normal ?_
          have stN := st.1
          clear hX hF hb HS b9 b9' hHeld hHeld9 cw9 fz9 st inF cD cS
          generalize w9.setCell ⟨gx, k, none⟩ (.int .i64 (IntKind.i64.wrap (u + v) % 4294967296)) = wc at stN inF2 belN ⊢
          go_wp2
          go_roundw
          case rel => exact ⟨k + 1, by omega, by go_num, stN, inF2, belN⟩
          case measure => simp [intOf]; omega
        · have hk16 : k = 16 := by omega
          have hnl2 : ¬ (k : Int) < 16 := by omega
          rw [hk16] at hX
          have CW := specWordBytes_any (some ⟨gx, 0, none⟩) 16 cx false (sumsL X F 16) wr (by omega) (by rw [sumsL_length F (by omega)]; exact lX) (owns_inI hX)
          rw [HB.out] at CW
          clear hk16
          replace CW : Hid (Calls Altd.prog 39 _ wr _) := CW
          clear hX hF
          go_wp2_with (fail)
          refine CW.out.mono ?_
          rintro e w8 ⟨p8, c8, rfl, r8, b8⟩
          have hsr := hb.size
          go_wp2
          go_ret
          exact ⟨_, _, rfl, ⟨owns_mono r8.1 hsr, r8.2⟩, below_on hb b8⟩

theorem specBlk_no (p q : Option Addr) (n m c d : Nat) (count : Int) (w : World) (hno : ¬ blkOk n m count) :
    Calls Altd.prog 13 #[.slice p n c, .int .i64 count, .slice q m d] w fun e w' => ∃ p' c', e = .returned (.slice p' 0 c') ∧ Own 5 w' w.heap.size w'.heap.size (.slice p' 0 c') 0 [] ∧ Below w.heap.size w w' := by
  unfold blkOk at hno
  by_cases h1 : n = 32
  rotate_left
  · have z1 : ((n : Int) != 32) = true := by simp; omega
    go_enter Altd.func13, Altd.ntmps13
    go_wp2
    go_ret
    exact ⟨_, _, rfl, .of (World.ownsRow_made w #[] 0 (Nat.le_refl _) (by unfold maxLen; omega) rfl), (Below.refl _ _).alloc (Nat.le_refl _) _⟩
  subst h1
  by_cases h2 : m = 12
  rotate_left
  · have z2 : ((m : Int) != 12) = true := by simp; omega
    go_enter Altd.func13, Altd.ntmps13
    go_wp2
    go_ret
    exact ⟨_, _, rfl, .of (World.ownsRow_made w #[] 0 (Nat.le_refl _) (by unfold maxLen; omega) rfl), (Below.refl _ _).alloc (Nat.le_refl _) _⟩
  subst h2
  have hc : ¬ (0 ≤ count ∧ count ≤ 4294967295) := fun e => hno ⟨rfl, rfl, e⟩
  have CI := l1In_is count 0 4294967295 w
  rw [decide_eq_false hc] at CI
  go_enter Altd.func13, Altd.ntmps13
  go_wp2_with (fail)
  refine CI.mono ?_
  rintro e w1 ⟨rfl, rfl⟩
  go_wp2
  go_ret
  exact ⟨_, _, rfl, .of (World.ownsRow_made _ #[] 0 (Nat.le_refl _) (by unfold maxLen; omega) rfl), (Below.refl _ _).alloc (Nat.le_refl _) _⟩
theorem specBlk_any (p q : Option Addr) (n m c d : Nat) (count : Int) (ks ns : List Int) (w : World) (hx : ks.length = n) (hy : ns.length = m) (h : BytesIn w p n ks) (h' : BytesIn w q m ns) (hb1 : ∀ x ∈ ks, 0 ≤ x ∧ x < 256) (hb2 : ∀ x ∈ ns, 0 ≤ x ∧ x < 256) :
    Calls Altd.prog 13 #[.slice p n c, .int .i64 count, .slice q m d] w fun e w' => ∃ p' c', e = .returned (.slice p' (blkN n m count) c') ∧ Own 5 w' w.heap.size w'.heap.size (.slice p' (blkN n m count) c') (blkN n m count) (blkL ks count ns) ∧ Below w.heap.size w w' := by
  unfold blkN blkL
  rw [hx, hy]
  by_cases hok : blkOk n m count
  · rw [if_pos hok, if_pos hok]
    obtain ⟨rfl, rfl, hc⟩ := hok
    exact specBlk_yes p q c d ks ns count w hx hy h h' hb1 hb2 hc
  · rw [if_neg hok, if_neg hok]
    exact specBlk_no p q n m c d count w hok

end Go.Proofs.YtepbidaoloplbaaDoor.Alt
