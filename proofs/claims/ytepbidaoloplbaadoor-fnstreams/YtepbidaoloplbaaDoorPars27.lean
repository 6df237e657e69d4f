/-
  What the draws of bytes, of one of some texts or numbers, and of yes or no do, whatever cursor they are given; conditions: at most 255 bytes, at most 256 to pick from.
  What the laws' draws of chapter 3 make of any code: some bytes of their own, at most 4001. Condition: the code is of bytes, at most 2^20.
  What the laws' draws of chapter 3 make of any code: some bytes of their own, at most 4001. Condition: the code is of bytes, at most 2^20.
  What the draws of a tag's law answer: a key of 32 bytes or so, and some bytes.
  What the draws of a tag's law answer: a key of 32 bytes or so, and some bytes.
  What the draws of chapter 2 hand over, whatever bytes they are drawn from: two ints, bytes and a yes or no, some ints and a yes or no; condition: at most 1048576 bytes, each of them one.
  What the draws of chapter 2 hand over, whatever bytes they are drawn from: two ints, bytes and a yes or no, some ints and a yes or no; condition: at most 1048576 bytes, each of them one.
  A row of bytes 0 that is made; the beginning of a row.
  A row of bytes 0 that is made; the beginning of a row.
  What the draws of chapter 5's laws answer: keys, a count, nonces, texts; 16 numbers or so and places.
  What the draws of chapter 5's laws answer: keys, a count, nonces, texts; 16 numbers or so and places.
  What spec.Same and impl.Same answer, whatever bytes they are given; no condition.
  What spec.Same and impl.Same answer, whatever bytes they are given; no condition.
  What the laws' helper big answers of a code's length, and a list's beginning; no condition.
  What the laws' helper big answers of a code's length, and a list's beginning; no condition.
  What the laws' at answers.
  What the laws' at answers.
-/
import Derived.Test.YtepbidaoloplbaaDoorPars26
import Derived.Test.YtepbidaoloplbaaDoorPars11
import Derived.Test.YtepbidaoloplbaaDoorPars09
import Derived.Test.YtepbidaoloplbaaDoorPars08
import Derived.Test.YtepbidaoloplbaaDoorPars21
namespace Go.Proofs.YtepbidaoloplbaaDoor.Alt
open Go.RowKit

set_option maxHeartbeats 2000000 in
theorem l1DrawBytes_any (a : Nat) (p : Option Addr) (n c : Nat) (xs : List Int) (m : Int) (w : World) (hm : 0 ≤ m) (hm2 : m ≤ 255) (hcur : Cur w a p n c xs) :
    Calls Altd.prog 28 #[.pointer (some ⟨a, 0, none⟩), .int .i64 m] w fun e w' => ∃ g k c' ys, e = .returned (.slice (some ⟨g, 0, none⟩) k c') ∧ (k : Int) ≤ m ∧ Own 5 w' w.heap.size w'.heap.size (.slice (some ⟨g, 0, none⟩) k c') k ys ∧ (∀ y ∈ ys, 0 ≤ y ∧ y < 256) ∧ Cur w' a p n c xs ∧ w.grownBy w' (some a) := by
  obtain ⟨i0, hi, hz0, hz1, hz2⟩ := info_parts infoByte
  have ha := hcur.lt
  have hcl := hcur.code_lt
  go_enter Altd.func28, Altd.ntmps28
  go_wp2_with (fail)
  have hb0 : Below w.heap.size w (w.alloc (.cells #[] 5)) := (Below.refl _ _).alloc (Nat.le_refl _) _
  refine (l1Below_any a p n c xs (m + 1) _ (by omega) (by omega) (hcur.below hb0 ha hcl)).mono ?_
  rintro e w1 ⟨x, rfl, hx0, hx1, hc1, g1⟩
  obtain ⟨K, hK⟩ : ∃ K : Nat, x = (K : Int) := ⟨x.toNat, by omega⟩
  subst hK
  have o1 : w1.ownsRow w.heap.size 5 1 (.slice (some ⟨w.heap.size, 0, none⟩) 0 0) 0 (([] : List Int).map (Value.int .u8)) := owns_cur (World.ownsRow_made w #[] 0 (Nat.le_refl _) (by unfold maxLen; omega) rfl) g1 ha
  have gg : w.grownBy w1 (some a) := grown_trans (World.grownBy_alloc w _ _) g1
  clear hb0 g1
  go_wp2
  go_loopw [5, 7] (fun v i wr => ∃ (k : Nat) (ys : List Int), k ≤ K ∧ i = .int .i64 k ∧ Hid (∃ g cap, v = .slice (some ⟨g, 0, none⟩) k cap) ∧ wr.ownsRow w.heap.size 5 1 v k (ys.map (Value.int .u8)) ∧ Hid (∀ y ∈ ys, 0 ≤ y ∧ y < 256) ∧ Cur wr a p n c xs ∧ w.grownBy wr (some a))
    (fun _ i _ => K - (intOf i).toNat)
  case atStart => exact ⟨0, [], Nat.zero_le _, rfl, ⟨_, _, rfl⟩, o1, (fun y hy => by cases hy), hc1, gg⟩
  case round =>
    clear o1 gg hc1
    obtain ⟨k, ys, hk, rfl, hform, hown, hys, hc, hgr⟩ := hrel
    have hsz := hgr.size
    by_cases hlt : k < K
    · go_wp2_with (fail)
      refine (l1Below_any a p n c xs 256 _ (by omega) (by omega) hc).mono ?_
      rintro e w2 ⟨y, rfl, hy0, hy1, hc2, g2⟩
      have o2 := owns_cur hown g2 ha
      have gg := grown_trans hgr g2
      have hsz2 := gg.size
      have hys2 : Hid (∀ z ∈ ys ++ [y], 0 ≤ z ∧ z < 256) := by
        intro z hz
        rcases List.mem_append.1 hz with h | h
        · exact hys.out z h
        · simp at h; subst h; exact ⟨hy0, hy1⟩
      clear hown hc hgr hys hform
      go_wp2_with (at_builtin; refine list_pushK hi hz0 hz1 hz2 (.tmp 18) (.tmp 22) 22 Altd.underlying22 _ o2 (by omega) hsz2 (by rfl) (by rfl) (by rfl) (by rfl) ?_; intro g cap w3 ho3 hb3 hkk)
      go_roundw
      case rel => exact ⟨k + 1, ys ++ [y], by omega, by go_num, ⟨_, _, rfl⟩, ho3, hys2, hc2.below hb3 ha hcl, grown_below gg hb3⟩
      case measure => simp [intOf]; omega
    · obtain ⟨g, c', hv⟩ := hform.out
      clear hform
      subst hv
      go_wp2
      go_ret
      exact ⟨g, k, c', ys, rfl, by omega, .of hown, hys.out, hc, hgr⟩

theorem l1Once_any (a : Nat) (p : Option Addr) (n c : Nat) (xs : List Int) (m : Int) (w : World) (hm : 1 ≤ m) (hm2 : m ≤ 256) (hcur : Cur w a p n c xs) :
    Calls Altd.prog 26 #[.pointer (some ⟨a, 0, none⟩), .int .i64 m] w fun e w' => ∃ b : Bool, e = .returned (.bool b) ∧ Cur w' a p n c xs ∧ w.grownBy w' (some a) := by
  go_enter Altd.func26, Altd.ntmps26
  go_wp2_with (fail)
  refine (l1Below_any a p n c xs m _ hm hm2 hcur).mono ?_
  rintro e w1 ⟨x, rfl, hx0, hx1, hc1, g1⟩
  go_wp2_with (fail)
  go_ret
  exact ⟨_, rfl, hc1, g1⟩

theorem l1PickInt_any (a : Nat) (p : Option Addr) (n c : Nat) (xs : List Int) (g L : Nat) (zs : List Int) (w : World) (hL : 1 ≤ L) (hL2 : L ≤ 256) (hz : zs.length = L) (hcells : ∀ i, i < L → w.cell? ⟨g, i, none⟩ = some (.int .i64 (zs.getD i 0))) (hg : g ≠ a) (hcur : Cur w a p n c xs) :
    Calls Altd.prog 47 #[.pointer (some ⟨a, 0, none⟩), .slice (some ⟨g, 0, none⟩) L L] w fun e w' => ∃ z ∈ zs, e = .returned (.int .i64 z) ∧ Cur w' a p n c xs ∧ w.grownBy w' (some a) := by
  go_enter Altd.func47, Altd.ntmps47
  go_wp2_with (fail)
  refine (l1Below_any a p n c xs (L : Int) _ (by omega) (by omega) hcur).mono ?_
  rintro e w1 ⟨x, rfl, hx0, hx1, hc1, g1⟩
  obtain ⟨k, hk⟩ : ∃ k : Nat, x = (k : Int) := ⟨x.toNat, by omega⟩
  subst hk
  have hck : w1.cell? ⟨g, k, none⟩ = some (.int .i64 (zs.getD k 0)) := g1.cell (hcells k (by omega)) (by simpa using hg)
  obtain ⟨u, hu⟩ : ∃ u, u = zs.getD k 0 := ⟨_, rfl⟩
  rw [← hu] at hck
  have hmem : Hid (u ∈ zs) := by
    show u ∈ zs
    rw [hu]
    simp [List.getElem?_eq_getElem (show k < zs.length by omega)]
  clear hu
  go_wp2_with (fail)
  go_ret
  exact ⟨u, hmem.out, rfl, hc1, g1⟩

end Go.Proofs.YtepbidaoloplbaaDoor.Alt

namespace Go.Proofs.YtepbidaoloplbaaDoor
open Go.RowKit

set_option maxHeartbeats 2000000 in
theorem l1DrawJust_any (a : Nat) (p : Option Addr) (n c : Nat) (xs : List Int) (K : Nat) (w : World) (hK : K ≤ 1000) (hcur : Cur w a p n c xs) :
    Calls Tryd.prog 45 #[.pointer (some ⟨a, 0, none⟩), .int .i64 K] w fun e w' => ∃ g k c' ys, e = .returned (.slice (some ⟨g, 0, none⟩) k c') ∧ k ≤ 1000 ∧ Own 5 w' w.heap.size w'.heap.size (.slice (some ⟨g, 0, none⟩) k c') k ys ∧ (∀ y ∈ ys, 0 ≤ y ∧ y < 256) ∧ Cur w' a p n c xs ∧ w.grownBy w' (some a) := by
  obtain ⟨i0, hi, hz0, hz1, hz2⟩ := info_parts infoByte
  have ha := hcur.lt
  have hcl := hcur.code_lt
  go_enter Tryd.func45, Tryd.ntmps45
  go_wp2_with (fail)
  have hb0 : Below w.heap.size w (w.alloc (.cells #[] 5)) := (Below.refl _ _).alloc (Nat.le_refl _) _
  have o1 : (w.alloc (.cells #[] 5)).ownsRow w.heap.size 5 1 (.slice (some ⟨w.heap.size, 0, none⟩) 0 0) 0 (([] : List Int).map (Value.int .u8)) := World.ownsRow_made w #[] 0 (Nat.le_refl _) (by unfold maxLen; omega) rfl
  have hc1 := hcur.below hb0 ha hcl
  have gg : w.grownBy (w.alloc (.cells #[] 5)) (some a) := World.grownBy_alloc w _ _
  go_loopw [5, 6] (fun v i wr => ∃ (k : Nat) (ys : List Int), k ≤ K ∧ i = .int .i64 k ∧ Hid (∃ g cap, v = .slice (some ⟨g, 0, none⟩) k cap) ∧ wr.ownsRow w.heap.size 5 1 v k (ys.map (Value.int .u8)) ∧ Hid (∀ y ∈ ys, 0 ≤ y ∧ y < 256) ∧ Cur wr a p n c xs ∧ w.grownBy wr (some a))
    (fun _ i _ => K - (intOf i).toNat)
  case atStart => exact ⟨0, [], Nat.zero_le _, rfl, ⟨_, _, rfl⟩, o1, (fun y hy => by cases hy), hc1, gg⟩
  case round =>
    clear o1 gg hc1 hb0
    obtain ⟨k, ys, hk, rfl, hform, hown, hys, hc, hgr⟩ := hrel
    have hsz := hgr.size
    by_cases hlt : k < K
    · go_wp2_with (fail)
      refine (l1Below_any a p n c xs 256 _ (by omega) (by omega) hc).mono ?_
      rintro e w2 ⟨y, rfl, hy0, hy1, hc2, g2⟩
      have o2 := owns_cur hown g2 ha
      have gg := grown_trans hgr g2
      have hsz2 := gg.size
      have hys2 : Hid (∀ z ∈ ys ++ [y], 0 ≤ z ∧ z < 256) := by
        intro z hz
        rcases List.mem_append.1 hz with h | h
        · exact hys.out z h
        · simp at h; subst h; exact ⟨hy0, hy1⟩
      clear hown hc hgr hys hform
      go_wp2_with (at_builtin; refine list_pushK hi hz0 hz1 hz2 (.tmp 13) (.tmp 17) 22 Tryd.underlying22 _ o2 (by omega) hsz2 (by rfl) (by rfl) (by rfl) (by rfl) ?_; intro g cap w3 ho3 hb3 hkk)
      go_roundw
      case rel => exact ⟨k + 1, ys ++ [y], by omega, by go_num, ⟨_, _, rfl⟩, ho3, hys2, hc2.below hb3 ha hcl, grown_below gg hb3⟩
      case measure => simp [intOf]; omega
    · obtain ⟨g, c', hv⟩ := hform.out
      clear hform
      subst hv
      go_wp2
      go_ret
      exact ⟨g, k, c', ys, rfl, by omega, .of hown, hys.out, hc, hgr⟩

end Go.Proofs.YtepbidaoloplbaaDoor

namespace Go.Proofs.YtepbidaoloplbaaDoor.Alt
open Go.RowKit

set_option maxHeartbeats 2000000 in
theorem l1DrawJust_any (a : Nat) (p : Option Addr) (n c : Nat) (xs : List Int) (K : Nat) (w : World) (hK : K ≤ 1000) (hcur : Cur w a p n c xs) :
    Calls Altd.prog 45 #[.pointer (some ⟨a, 0, none⟩), .int .i64 K] w fun e w' => ∃ g k c' ys, e = .returned (.slice (some ⟨g, 0, none⟩) k c') ∧ k ≤ 1000 ∧ Own 5 w' w.heap.size w'.heap.size (.slice (some ⟨g, 0, none⟩) k c') k ys ∧ (∀ y ∈ ys, 0 ≤ y ∧ y < 256) ∧ Cur w' a p n c xs ∧ w.grownBy w' (some a) := by
  obtain ⟨i0, hi, hz0, hz1, hz2⟩ := info_parts infoByte
  have ha := hcur.lt
  have hcl := hcur.code_lt
  go_enter Altd.func45, Altd.ntmps45
  go_wp2_with (fail)
  have hb0 : Below w.heap.size w (w.alloc (.cells #[] 5)) := (Below.refl _ _).alloc (Nat.le_refl _) _
  have o1 : (w.alloc (.cells #[] 5)).ownsRow w.heap.size 5 1 (.slice (some ⟨w.heap.size, 0, none⟩) 0 0) 0 (([] : List Int).map (Value.int .u8)) := World.ownsRow_made w #[] 0 (Nat.le_refl _) (by unfold maxLen; omega) rfl
  have hc1 := hcur.below hb0 ha hcl
  have gg : w.grownBy (w.alloc (.cells #[] 5)) (some a) := World.grownBy_alloc w _ _
  go_loopw [5, 6] (fun v i wr => ∃ (k : Nat) (ys : List Int), k ≤ K ∧ i = .int .i64 k ∧ Hid (∃ g cap, v = .slice (some ⟨g, 0, none⟩) k cap) ∧ wr.ownsRow w.heap.size 5 1 v k (ys.map (Value.int .u8)) ∧ Hid (∀ y ∈ ys, 0 ≤ y ∧ y < 256) ∧ Cur wr a p n c xs ∧ w.grownBy wr (some a))
    (fun _ i _ => K - (intOf i).toNat)
  case atStart => exact ⟨0, [], Nat.zero_le _, rfl, ⟨_, _, rfl⟩, o1, (fun y hy => by cases hy), hc1, gg⟩
  case round =>
    clear o1 gg hc1 hb0
    obtain ⟨k, ys, hk, rfl, hform, hown, hys, hc, hgr⟩ := hrel
    have hsz := hgr.size
    by_cases hlt : k < K
    · go_wp2_with (fail)
      refine (l1Below_any a p n c xs 256 _ (by omega) (by omega) hc).mono ?_
      rintro e w2 ⟨y, rfl, hy0, hy1, hc2, g2⟩
      have o2 := owns_cur hown g2 ha
      have gg := grown_trans hgr g2
      have hsz2 := gg.size
      have hys2 : Hid (∀ z ∈ ys ++ [y], 0 ≤ z ∧ z < 256) := by
        intro z hz
        rcases List.mem_append.1 hz with h | h
        · exact hys.out z h
        · simp at h; subst h; exact ⟨hy0, hy1⟩
      clear hown hc hgr hys hform
      go_wp2_with (at_builtin; refine list_pushK hi hz0 hz1 hz2 (.tmp 13) (.tmp 17) 22 Altd.underlying22 _ o2 (by omega) hsz2 (by rfl) (by rfl) (by rfl) (by rfl) ?_; intro g cap w3 ho3 hb3 hkk)
      go_roundw
      case rel => exact ⟨k + 1, ys ++ [y], by omega, by go_num, ⟨_, _, rfl⟩, ho3, hys2, hc2.below hb3 ha hcl, grown_below gg hb3⟩
      case measure => simp [intOf]; omega
    · obtain ⟨g, c', hv⟩ := hform.out
      clear hform
      subst hv
      go_wp2
      go_ret
      exact ⟨g, k, c', ys, rfl, by omega, .of hown, hys.out, hc, hgr⟩

end Go.Proofs.YtepbidaoloplbaaDoor.Alt

namespace Go.Proofs.YtepbidaoloplbaaDoor
open Go.RowKit

theorem l1Max_zero (K : Nat) (w : World) : Calls Tryd.prog 46 #[.int .i64 (K : Int), .int .i64 0] w fun e w' => e = .returned (.int .i64 (K : Int)) ∧ w' = w := by
  by_cases h : (0 : Int) < (K : Int)
  · go_enter Tryd.func46, Tryd.ntmps46
    go_wp2
    go_ret
    exact ⟨rfl, rfl⟩
  · obtain rfl : K = 0 := by omega
    go_enter Tryd.func46, Tryd.ntmps46
    go_wp2
    go_ret
    exact ⟨rfl, rfl⟩

set_option maxHeartbeats 2000000 in
theorem l1DrawNear_any (a : Nat) (p : Option Addr) (n c : Nat) (xs : List Int) (K : Nat) (w : World) (hK1 : 1 ≤ K) (hK2 : K ≤ 500) (hcur : Cur w a p n c xs) :
    Calls Tryd.prog 24 #[.pointer (some ⟨a, 0, none⟩), .int .i64 (K : Int)] w fun e w' => ∃ g k c' ys, e = .returned (.slice (some ⟨g, 0, none⟩) k c') ∧ k ≤ 1000 ∧ Own 5 w' w.heap.size w'.heap.size (.slice (some ⟨g, 0, none⟩) k c') k ys ∧ (∀ y ∈ ys, 0 ≤ y ∧ y < 256) ∧ Cur w' a p n c xs ∧ w.grownBy w' (some a) := by
  obtain ⟨U, hU⟩ : ∃ U : Nat, U = K + 1 := ⟨_, rfl⟩
  obtain ⟨D, hD⟩ : ∃ D : Nat, D = K - 1 := ⟨_, rfl⟩
  have eU : (K : Int) + 1 = (U : Int) := by omega
  have eD : (K : Int) - 1 = (D : Int) := by omega
  have CU := fun w h => l1DrawJust_any a p n c xs U w (by omega) h
  have CD := fun w h => l1DrawJust_any a p n c xs D w (by omega) h
  have CK := fun w h => l1DrawJust_any a p n c xs K w (by omega) h
  clear hU hD
  go_enter Tryd.func24, Tryd.ntmps24
  go_wp2_with (fail)
  refine (l1Below_any a p n c xs 16 _ (by omega) (by omega) hcur).mono ?_
  rintro e w1 ⟨x, rfl, hx0, hx1, hc1, g1⟩
  by_cases h0 : x = 0
  · subst h0
    go_wp2_with (fail)
    refine (CU _ hc1).mono ?_
    rintro e w2 ⟨g, k, c', ys, rfl, hk, o2, hys, hc2, g2⟩
    go_wp2_with (fail)
    go_ret
    exact ⟨g, k, c', ys, rfl, hk, o2.mono g1.size (Nat.le_refl _), hys, hc2, grown_trans g1 g2⟩
  · by_cases h1 : x = 1
    · subst h1
      go_wp2_with (fail)
      refine (l1Max_zero D _).mono ?_
      rintro e w1 ⟨rfl, rfl⟩
      go_wp2_with (fail)
      refine (CD _ hc1).mono ?_
      rintro e w2 ⟨g, k, c', ys, rfl, hk, o2, hys, hc2, g2⟩
      go_wp2_with (fail)
      go_ret
      exact ⟨g, k, c', ys, rfl, hk, o2.mono g1.size (Nat.le_refl _), hys, hc2, grown_trans g1 g2⟩
    · by_cases h2 : x = 2
      · subst h2
        go_wp2
        go_ret
        exact ⟨_, 0, _, [], rfl, by omega, .of (World.ownsRow_made w1 #[] 0 g1.size (by unfold maxLen; omega) rfl), (fun y hy => by cases hy), hc1.below ((Below.refl w1.heap.size w1).alloc (Nat.le_refl _) _) hc1.lt hc1.code_lt, grown_trans g1 (World.grownBy_alloc w1 _ _)⟩
      · have d0 : (x == 0) = false := by simpa using h0
        have d1 : (x == 1) = false := by simpa using h1
        have d2 : (x == 2) = false := by simpa using h2
        go_wp2_with (fail)
        refine (CK _ hc1).mono ?_
        rintro e w2 ⟨g, k, c', ys, rfl, hk, o2, hys, hc2, g2⟩
        go_wp2_with (fail)
        go_ret
        exact ⟨g, k, c', ys, rfl, hk, o2.mono g1.size (Nat.le_refl _), hys, hc2, grown_trans g1 g2⟩

/-- The first k all 255, the others nought. -/
def fulls (k : Nat) : List Int := List.replicate k 255 ++ List.replicate (32 - k) 0

end Go.Proofs.YtepbidaoloplbaaDoor

namespace Go.Proofs.YtepbidaoloplbaaDoor.Alt
open Go.RowKit

theorem l1Max_zero (K : Nat) (w : World) : Calls Altd.prog 46 #[.int .i64 (K : Int), .int .i64 0] w fun e w' => e = .returned (.int .i64 (K : Int)) ∧ w' = w := by
  by_cases h : (0 : Int) < (K : Int)
  · go_enter Altd.func46, Altd.ntmps46
    go_wp2
    go_ret
    exact ⟨rfl, rfl⟩
  · obtain rfl : K = 0 := by omega
    go_enter Altd.func46, Altd.ntmps46
    go_wp2
    go_ret
    exact ⟨rfl, rfl⟩

set_option maxHeartbeats 2000000 in
theorem l1DrawNear_any (a : Nat) (p : Option Addr) (n c : Nat) (xs : List Int) (K : Nat) (w : World) (hK1 : 1 ≤ K) (hK2 : K ≤ 500) (hcur : Cur w a p n c xs) :
    Calls Altd.prog 24 #[.pointer (some ⟨a, 0, none⟩), .int .i64 (K : Int)] w fun e w' => ∃ g k c' ys, e = .returned (.slice (some ⟨g, 0, none⟩) k c') ∧ k ≤ 1000 ∧ Own 5 w' w.heap.size w'.heap.size (.slice (some ⟨g, 0, none⟩) k c') k ys ∧ (∀ y ∈ ys, 0 ≤ y ∧ y < 256) ∧ Cur w' a p n c xs ∧ w.grownBy w' (some a) := by
  obtain ⟨U, hU⟩ : ∃ U : Nat, U = K + 1 := ⟨_, rfl⟩
  obtain ⟨D, hD⟩ : ∃ D : Nat, D = K - 1 := ⟨_, rfl⟩
  have eU : (K : Int) + 1 = (U : Int) := by omega
  have eD : (K : Int) - 1 = (D : Int) := by omega
  have CU := fun w h => l1DrawJust_any a p n c xs U w (by omega) h
  have CD := fun w h => l1DrawJust_any a p n c xs D w (by omega) h
  have CK := fun w h => l1DrawJust_any a p n c xs K w (by omega) h
  clear hU hD
  go_enter Altd.func24, Altd.ntmps24
  go_wp2_with (fail)
  refine (l1Below_any a p n c xs 16 _ (by omega) (by omega) hcur).mono ?_
  rintro e w1 ⟨x, rfl, hx0, hx1, hc1, g1⟩
  by_cases h0 : x = 0
  · subst h0
    go_wp2_with (fail)
    refine (CU _ hc1).mono ?_
    rintro e w2 ⟨g, k, c', ys, rfl, hk, o2, hys, hc2, g2⟩
    go_wp2_with (fail)
    go_ret
    exact ⟨g, k, c', ys, rfl, hk, o2.mono g1.size (Nat.le_refl _), hys, hc2, grown_trans g1 g2⟩
  · by_cases h1 : x = 1
    · subst h1
      go_wp2_with (fail)
      refine (l1Max_zero D _).mono ?_
      rintro e w1 ⟨rfl, rfl⟩
      go_wp2_with (fail)
      refine (CD _ hc1).mono ?_
      rintro e w2 ⟨g, k, c', ys, rfl, hk, o2, hys, hc2, g2⟩
      go_wp2_with (fail)
      go_ret
      exact ⟨g, k, c', ys, rfl, hk, o2.mono g1.size (Nat.le_refl _), hys, hc2, grown_trans g1 g2⟩
    · by_cases h2 : x = 2
      · subst h2
        go_wp2
        go_ret
        exact ⟨_, 0, _, [], rfl, by omega, .of (World.ownsRow_made w1 #[] 0 g1.size (by unfold maxLen; omega) rfl), (fun y hy => by cases hy), hc1.below ((Below.refl w1.heap.size w1).alloc (Nat.le_refl _) _) hc1.lt hc1.code_lt, grown_trans g1 (World.grownBy_alloc w1 _ _)⟩
      · have d0 : (x == 0) = false := by simpa using h0
        have d1 : (x == 1) = false := by simpa using h1
        have d2 : (x == 2) = false := by simpa using h2
        go_wp2_with (fail)
        refine (CK _ hc1).mono ?_
        rintro e w2 ⟨g, k, c', ys, rfl, hk, o2, hys, hc2, g2⟩
        go_wp2_with (fail)
        go_ret
        exact ⟨g, k, c', ys, rfl, hk, o2.mono g1.size (Nat.le_refl _), hys, hc2, grown_trans g1 g2⟩

end Go.Proofs.YtepbidaoloplbaaDoor.Alt

namespace Go.Proofs.YtepbidaoloplbaaDoor
open Go.RowKit

end Go.Proofs.YtepbidaoloplbaaDoor

namespace Go.Proofs.YtepbidaoloplbaaDoor.Alt
open Go.RowKit

end Go.Proofs.YtepbidaoloplbaaDoor.Alt

namespace Go.Proofs.YtepbidaoloplbaaDoor
open Go.RowKit

theorem makeB (Z : Nat) (hZ : Z ≤ 4000) (W : World) : (Instr.makeSlice 22 (.int .i64 (Z : Int)) (.int .i64 (Z : Int))).run Tryd.prog W = .ok (.slice (some ⟨W.heap.size, 0, none⟩) Z Z) (W.alloc (.cells (madeCells #[.int .u8 0] Z) 5)) := by
  obtain ⟨i0, hi, hz0, hz1, hz2⟩ := info_parts infoByte
  have := run_makeSlice (P := Tryd.prog) W 22 5 i0 (.int .u8 0) Tryd.underlying22 hi hz0 .i64 .i64 Z Z (by omega) (by omega) (by rw [hz1]; simp; omega) (by rw [hz2]; omega) (by omega)
  simpa [hz1, Value.cells] using this
theorem madeB_own (W : World) (lo Z : Nat) (hlo : lo ≤ W.heap.size) (hZ : Z ≤ 4000) : (W.alloc (.cells (madeCells #[.int .u8 0] Z) 5)).ownsRow lo 5 1 (.slice (some ⟨W.heap.size, 0, none⟩) Z Z) Z ((List.replicate Z (0 : Int)).map (Value.int .u8)) := by
  have e : (madeCells #[Value.int .u8 0] Z).toList = (List.replicate Z (0 : Int)).map (Value.int .u8) := by rw [toList_madeCells_one]; simp
  have hs : (madeCells #[Value.int .u8 0] Z).size = Z := by rw [← Array.length_toList, e]; simp
  refine ⟨by simp, .inr ⟨W.heap.size, Z, _, rfl, hlo, heap_alloc_new W _, Nat.le_refl _, by unfold maxLen; omega, by rw [hs]; omega, ?_⟩⟩
  rw [e]
  simp
theorem nought_byte (Z : Nat) : ∀ y ∈ List.replicate Z (0 : Int), 0 ≤ y ∧ y < 256 := fun y hy => by rw [List.eq_of_mem_replicate hy]; omega
/-- The beginning of a row that is owned. -/
theorem Own.take {e : Nat} {w : World} {lo hi : Nat} {p : Option Addr} {n c k : Nat} {xs : List Int} (h : Own e w lo hi (.slice p n c) n xs) (hk : k ≤ n) : Own e w lo hi (.slice p k c) k (xs.take k) := by
  have hl := h.len
  refine ⟨⟨by simp; omega, ?_⟩, fun j hj => h.2 j (by cases p with | none => cases hj | some a => exact hj)⟩
  rcases h.1.2 with ⟨hv, h0⟩ | ⟨g, cap, cur, hv, hb, hg, hnc, hcm, hcs, ht⟩
  · simp only [Value.slice.injEq] at hv
    obtain ⟨rfl, _, rfl⟩ := hv
    obtain rfl : k = 0 := by omega
    exact .inl ⟨rfl, rfl⟩
  · simp only [Value.slice.injEq] at hv
    obtain ⟨rfl, _, rfl⟩ := hv
    refine .inr ⟨g, c, cur, rfl, hb, hg, by omega, hcm, hcs, ?_⟩
    rw [List.map_take, ← ht, List.take_take]
    congr 1
    omega
theorem slice_to (p : Option Addr) (m cc h : Nat) (hc : h ≤ cc) (hp : p = none → cc = 0) (W : World) : (Instr.slice 22 (.slice p m cc) none (some (.int .i64 (h : Int))) none).run Tryd.prog W = .ok (.slice p h cc) W := by
  have ht' : Tryd.prog.underlying 22 = some (.slice (Tryd.prog.elem 22)) := by simp [Program.elem, Tryd.underlying22]
  have he : Tryd.prog.elem 22 = 5 := by simp [Program.elem, Tryd.underlying22]
  obtain ⟨i0, hi, hz0, hz1, hz2⟩ := info_parts infoByte
  rw [run_slice_h W 22 _ _ _ ht' .i64 h (by omega) (by omega), he]
  cases p with
  | none => simp [sizeOf, typeInfo, hi, sliced]
  | some a => simp [sizeOf, typeInfo, hi, sliced, Addr.add]

end Go.Proofs.YtepbidaoloplbaaDoor

namespace Go.Proofs.YtepbidaoloplbaaDoor.Alt
open Go.RowKit

theorem makeB (Z : Nat) (hZ : Z ≤ 4000) (W : World) : (Instr.makeSlice 22 (.int .i64 (Z : Int)) (.int .i64 (Z : Int))).run Altd.prog W = .ok (.slice (some ⟨W.heap.size, 0, none⟩) Z Z) (W.alloc (.cells (madeCells #[.int .u8 0] Z) 5)) := by
  obtain ⟨i0, hi, hz0, hz1, hz2⟩ := info_parts infoByte
  have := run_makeSlice (P := Altd.prog) W 22 5 i0 (.int .u8 0) Altd.underlying22 hi hz0 .i64 .i64 Z Z (by omega) (by omega) (by rw [hz1]; simp; omega) (by rw [hz2]; omega) (by omega)
  simpa [hz1, Value.cells] using this
theorem slice_to (p : Option Addr) (m cc h : Nat) (hc : h ≤ cc) (hp : p = none → cc = 0) (W : World) : (Instr.slice 22 (.slice p m cc) none (some (.int .i64 (h : Int))) none).run Altd.prog W = .ok (.slice p h cc) W := by
  have ht' : Altd.prog.underlying 22 = some (.slice (Altd.prog.elem 22)) := by simp [-Altd.underlyingG, Program.elem, Altd.underlying22]
  have he : Altd.prog.elem 22 = 5 := by simp [-Altd.underlyingG, Program.elem, Altd.underlying22]
  obtain ⟨i0, hi, hz0, hz1, hz2⟩ := info_parts infoByte
  rw [run_slice_h W 22 _ _ _ ht' .i64 h (by omega) (by omega), he]
  cases p with
  | none => simp [-Altd.tables, sizeOf, typeInfo, hi, sliced]
  | some a => simp [-Altd.tables, sizeOf, typeInfo, hi, sliced, Addr.add]

end Go.Proofs.YtepbidaoloplbaaDoor.Alt

namespace Go.Proofs.YtepbidaoloplbaaDoor
open Go.RowKit
set_option maxRecDepth 100000

theorem results_four {fn : Func} {t u v x : Tmp} (h : fn.results = #[.tmp t, .tmp u, .tmp v, .tmp x]) (tmps : Array Value) (P : Program) (w : World) :
    (results fn tmps).run P w = .ok (.tuple #[tmps.getD t undef, tmps.getD u undef, tmps.getD v undef, tmps.getD x undef]) w := by
  simp [results, h]

theorem l5DrawCount_any (a : Nat) (p : Option Addr) (n c : Nat) (xs : List Int) (w : World) (hcur : Cur w a p n c xs) :
    Calls Tryd.prog 25 #[.pointer (some ⟨a, 0, none⟩)] w fun e w' => ∃ z : Int, e = .returned (.int .i64 z) ∧ (-1 ≤ z ∧ z ≤ 4294967296) ∧ Cur w' a p n c xs ∧ w.grownBy w' (some a) := by
  have hb0 : Below w.heap.size w (w.alloc (.cells (([0, 1, 7, 4294967295, 4294967296, -1] : List Int).map (Value.int .i64)).toArray 3)) := (Below.refl _ _).alloc (Nat.le_refl _) _
  have ha := hcur.lt
  go_enter Tryd.func25, Tryd.ntmps25
  go_wp2_with (fail)
  refine (l1PickInt_any a p n c xs w.heap.size 6 [0, 1, 7, 4294967295, 4294967296, -1] _ (by omega) (by omega) rfl (lit_ints w [0, 1, 7, 4294967295, 4294967296, -1] 3) (by omega) (hcur.below hb0 ha hcur.code_lt)).mono ?_
  rintro e w2 ⟨z, hz, rfl, hc2, g2⟩
  have gg : w.grownBy w2 (some a) := grown_trans (World.grownBy_alloc w _ _) g2
  have lz : -1 ≤ z ∧ z ≤ 4294967296 := by
    simp only [List.mem_cons, List.not_mem_nil, or_false] at hz
    omega
  clear hz hb0 g2
  go_wp2_with (fail)
  go_ret
  exact ⟨z, rfl, lz, hc2, gg⟩

set_option maxHeartbeats 2000000 in
theorem dBlock (p : Option Addr) (n c : Nat) (xs : List Int) (w : World) (hn : n ≤ 1048576) (hx : xs.length = n) (hb : BytesIn w p n xs) (hr : ∀ x ∈ xs, 0 ≤ x ∧ x < 256) :
    Calls Tryd.prog 9 #[.slice p n c] w fun e w' => ∃ g1 k1 c1 ys z g2 k2 c2 zs, e = .returned (.tuple #[.slice (some ⟨g1, 0, none⟩) k1 c1, .int .i64 z, .slice (some ⟨g2, 0, none⟩) k2 c2]) ∧ (k1 ≤ 1000 ∧ k2 ≤ 1000 ∧ (-1 ≤ z ∧ z ≤ 4294967296) ∧ (∀ y ∈ ys, 0 ≤ y ∧ y < 256) ∧ ∀ y ∈ zs, 0 ≤ y ∧ y < 256) ∧ Own 5 w' w.heap.size w'.heap.size (.slice (some ⟨g1, 0, none⟩) k1 c1) k1 ys ∧ Own 5 w' w.heap.size w'.heap.size (.slice (some ⟨g2, 0, none⟩) k2 c2) k2 zs ∧ Below w.heap.size w w' := by
  go_enter Tryd.func9, Tryd.ntmps9
  go_wp2_with (fail)
  refine (l1New_any p n c xs _ hn hx hb hr).mono ?_
  rintro e w1 ⟨a, rfl, ha, ha1, hc1, b1⟩
  have CN := l1DrawNear_any a p n c xs 32 w1 (by omega) (by omega) hc1
  go_wp2_with (fail)
  refine CN.mono ?_
  rintro e w2 ⟨g, k, ck, ys, rfl, hk, o2, hys, hc2, g2⟩
  have bel2 := below_cur b1 g2 ha
  clear CN
  go_wp2_with (fail)
  refine (l5DrawCount_any a p n c xs _ hc2).mono ?_
  rintro e w3 ⟨z, rfl, hz, hc3, g3⟩
  have o3 := o2.cur g3 ha1
  have bel3 := below_cur bel2 g3 ha
  have CM := l1DrawNear_any a p n c xs 12 w3 (by omega) (by omega) hc3
  go_wp2_with (fail)
  refine CM.mono ?_
  rintro e w4 ⟨g4, k4, c4, zs, rfl, hk4, o4, hzs, hc4, gg4⟩
  have o3' := o3.cur gg4 ha1
  have bel4 := below_cur bel3 gg4 ha
  clear CM
  go_wp2_with (fail)
  go_ret3
  exact ⟨_, _, _, ys, z, _, _, _, zs, rfl, ⟨hk, hk4, hz, hys, hzs⟩, .of (owns_mono o3'.1 b1.size), .of (owns_mono o4.1 bel3.size), bel4⟩

set_option maxHeartbeats 8000000 in
theorem dStream (p : Option Addr) (n c : Nat) (xs : List Int) (w : World) (hn : n ≤ 1048576) (hx : xs.length = n) (hb : BytesIn w p n xs) (hr : ∀ x ∈ xs, 0 ≤ x ∧ x < 256) :
    Calls Tryd.prog 7 #[.slice p n c] w fun e w' => ∃ g1 k1 c1 ys z g2 k2 c2 zs g3 k3 c3 us, e = .returned (.tuple #[.slice (some ⟨g1, 0, none⟩) k1 c1, .int .i64 z, .slice (some ⟨g2, 0, none⟩) k2 c2, .slice (some ⟨g3, 0, none⟩) k3 c3]) ∧ (k1 ≤ 1000 ∧ k2 ≤ 1000 ∧ k3 ≤ 1000 ∧ (-1 ≤ z ∧ z ≤ 4294967296) ∧ (∀ y ∈ ys, 0 ≤ y ∧ y < 256) ∧ (∀ y ∈ zs, 0 ≤ y ∧ y < 256) ∧ ∀ y ∈ us, 0 ≤ y ∧ y < 256) ∧ Own 5 w' w.heap.size w'.heap.size (.slice (some ⟨g1, 0, none⟩) k1 c1) k1 ys ∧ Own 5 w' w.heap.size w'.heap.size (.slice (some ⟨g2, 0, none⟩) k2 c2) k2 zs ∧ Own 5 w' w.heap.size w'.heap.size (.slice (some ⟨g3, 0, none⟩) k3 c3) k3 us ∧ Below w.heap.size w w' := by
  obtain ⟨i0, hi, hz0, hz1, hz2⟩ := info_parts infoByte
  go_enter Tryd.func7, Tryd.ntmps7
  go_wp2_with (fail)
  refine (l1New_any p n c xs _ hn hx hb hr).mono ?_
  rintro e w1 ⟨a, rfl, ha, ha1, hc1, b1⟩
  have CN := l1DrawNear_any a p n c xs 32 w1 (by omega) (by omega) hc1
  go_wp2_with (fail)
  refine CN.mono ?_
  rintro e w2 ⟨g, k, ck, ys, rfl, hk, o2, hys, hc2, g2⟩
  have bel2 := below_cur b1 g2 ha
  clear CN
  go_wp2_with (fail)
  refine (l5DrawCount_any a p n c xs _ hc2).mono ?_
  rintro e w3 ⟨z, rfl, hz, hc3, g3⟩
  have o3 := o2.cur g3 ha1
  have bel3 := below_cur bel2 g3 ha
  have CM := l1DrawNear_any a p n c xs 12 w3 (by omega) (by omega) hc3
  go_wp2_with (fail)
  refine CM.mono ?_
  rintro e w4 ⟨g4, k4, c4, zs, rfl, hk4, o4, hzs, hc4, gg4⟩
  have o3' := o3.cur gg4 ha1
  have bel4 := below_cur bel3 gg4 ha
  have ha3 := hc3.lt
  have z1 := b1.size
  have z3 := bel3.size
  clear CM hc1 hc2 hc3 o2 o3 hx hb hr b1 bel2 bel3 g2 g3 gg4
  go_wp2_with (fail)
  refine (l1Once_any a p n c xs 20 _ (by omega) (by omega) hc4).mono ?_
  rintro e w5 ⟨b, rfl, hc5, g5⟩
  have p3 := o3'.cur g5 ha1
  have p4 := o4.cur g5 ha3
  have bel5 := below_cur bel4 g5 ha
  clear o3' o4 bel4 hc4 g5
  cases b
  · go_wp2_with (fail)
    refine (l1DrawBytes_any a p n c xs 70 _ (by omega) (by omega) hc5).mono ?_
    rintro e w6 ⟨g6, k6, c6, us, rfl, hk6, o6, hus, hc6, gg6⟩
    have q3 := p3.cur gg6 ha1
    have q4 := p4.cur gg6 ha3
    have bel6 := below_cur bel5 gg6 ha
    go_wp2_with (fail)
    (try simp only [Exit.inBlock, Exit.then])
    refine bodyPost_ret (results_four rfl _ _ _) rfl ?_
    exact ⟨_, _, _, ys, z, _, _, _, zs, _, _, _, us, rfl, ⟨hk, hk4, by omega, hz, hys, hzs, hus⟩, .of (owns_mono q3.1 z1), .of (owns_mono q4.1 z3), .of (owns_mono o6.1 bel5.size), bel6⟩
  · go_wp2_with (fail)
    refine wp_region_noPanic ?_
    refine wp_region_T 11 (fun _ => True) (fun _ => True) (by kernel_rfl) ?_
    obtain ⟨wd, hwd⟩ : ∃ wd, wd = w5.drew := ⟨_, rfl⟩
    have bd : Below w5.heap.size w5 wd := by rw [hwd]; exact (Below.refl _ _).drew
    rw [← hwd]
    replace p3 := p3.on bd
    replace p4 := p4.on bd
    replace hc5 := hc5.below bd hc5.lt hc5.code_lt
    replace bel5 := below_on bel5 bd
    clear hwd bd
    refine anyT_takeT (i := 0) (v := .slice (some ⟨g, 0, none⟩) k ck) rfl (by kernel_rfl) (by kernel_rfl) (by kernel_rfl) (by kernel_rfl) (fun _ _ _ h => h) (Or.inl ⟨by rfl, fun X _ => by (go_simp <;> omega)⟩) trivial (fun _ => trivial) ?_
    simp only [Act.put, List.getElem_toArray, List.getElem_cons_zero, List.setIfInBounds_toArray, List.set_cons_zero, List.set_cons_succ]
    refine anyT_takeT (i := 1) (v := .int .i64 z) rfl (by kernel_rfl) (by kernel_rfl) (by kernel_rfl) (by kernel_rfl) (fun _ _ _ h => h) (Or.inl ⟨by rfl, fun X _ => by (go_simp <;> omega)⟩) trivial (fun _ => trivial) ?_
    simp only [Act.put, List.getElem_toArray, List.getElem_cons_zero, List.getElem_cons_succ, List.setIfInBounds_toArray, List.set_cons_zero, List.set_cons_succ]
    refine anyT_takeT (i := 2) (v := .slice (some ⟨g4, 0, none⟩) k4 c4) rfl (by kernel_rfl) (by kernel_rfl) (by kernel_rfl) (by kernel_rfl) (fun _ _ _ h => h) (Or.inl ⟨by rfl, fun X _ => by (go_simp <;> omega)⟩) trivial (fun _ => trivial) ?_
    simp only [Act.put, List.getElem_toArray, List.getElem_cons_zero, List.getElem_cons_succ, List.setIfInBounds_toArray, List.set_cons_zero, List.set_cons_succ]
    refine anyT_takeT (i := 3) (v := .pointer (some ⟨a, 0, none⟩)) rfl (by kernel_rfl) (by kernel_rfl) (by kernel_rfl) (by kernel_rfl) (fun _ _ _ h => h) (Or.inl ⟨by rfl, fun X _ => by (go_simp <;> omega)⟩) trivial (fun _ => trivial) ?_
    simp only [Act.put, List.getElem_toArray, List.getElem_cons_zero, List.getElem_cons_succ, List.setIfInBounds_toArray, List.set_cons_zero, List.set_cons_succ]
    refine anyT_one (i := 4) (by kernel_rfl) rfl (fun K hK => ?_)
    go_simp
    refine (l1Below_any a p n c xs 10 _ (by omega) (by omega) hc5).mono ?_
    rintro e w6 ⟨x, rfl, hx0, hx1, hc6, gg6⟩
    have q3 := p3.cur gg6 ha1
    have q4 := p4.cur gg6 ha3
    have bel6 := below_cur bel5 gg6 ha
    clear p3 p4 bel5
    go_simp
    refine hK.out _ _ trivial (fun _ => trivial) ?_
    clear hK K
    obtain ⟨Z, hZ⟩ : ∃ Z : Nat, 60 + x = (Z : Int) := ⟨(60 + x).toNat, by omega⟩
    have hwZ : IntKind.i64.wrap (Z : Int) = (Z : Int) := by rw [IntKind.wrap_i64]; omega
    have hmk := makeB Z (by omega)
    have ho := madeB_own w6 w.heap.size Z bel6.size (by omega)
    have hbz : Below w6.heap.size w6 (w6.alloc (.cells (madeCells #[.int .u8 0] Z) 5)) := (Below.refl _ _).alloc (Nat.le_refl _) _
    refine anyT_takeT (i := 5) (v := .int .i64 (Z : Int)) rfl (by kernel_rfl) (by kernel_rfl) (by kernel_rfl) (by kernel_rfl) (fun _ _ _ h => h) (Or.inl ⟨by rfl, fun X _ => by (go_simp <;> omega)⟩) trivial (fun _ => trivial) ?_
    simp only [Act.put, List.getElem_toArray, List.getElem_cons_zero, List.getElem_cons_succ, List.setIfInBounds_toArray, List.set_cons_zero, List.set_cons_succ]
    refine anyT_takeT (i := 7) (v := .slice (some ⟨g, 0, none⟩) k ck) rfl (by kernel_rfl) (by kernel_rfl) (by kernel_rfl) (by kernel_rfl) (fun _ _ _ h => h) (Or.inl ⟨by rfl, fun X _ => by (go_simp <;> omega)⟩) trivial (fun _ => trivial) ?_
    simp only [Act.put, List.getElem_toArray, List.getElem_cons_zero, List.getElem_cons_succ, List.setIfInBounds_toArray, List.set_cons_zero, List.set_cons_succ]
    refine anyT_takeT (i := 8) (v := .int .i64 z) rfl (by kernel_rfl) (by kernel_rfl) (by kernel_rfl) (by kernel_rfl) (fun _ _ _ h => h) (Or.inl ⟨by rfl, fun X _ => by (go_simp <;> omega)⟩) trivial (fun _ => trivial) ?_
    simp only [Act.put, List.getElem_toArray, List.getElem_cons_zero, List.getElem_cons_succ, List.setIfInBounds_toArray, List.set_cons_zero, List.set_cons_succ]
    refine anyT_takeT (i := 9) (v := .slice (some ⟨g4, 0, none⟩) k4 c4) rfl (by kernel_rfl) (by kernel_rfl) (by kernel_rfl) (by kernel_rfl) (fun _ _ _ h => h) (Or.inl ⟨by rfl, fun X _ => by (go_simp <;> omega)⟩) trivial (fun _ => trivial) ?_
    simp only [Act.put, List.getElem_toArray, List.getElem_cons_zero, List.getElem_cons_succ, List.setIfInBounds_toArray, List.set_cons_zero, List.set_cons_succ]
    refine anyT_one (i := 6) (by kernel_rfl) rfl (fun K hK => ?_)
    go_simp
    refine hK.out _ _ trivial (fun _ => trivial) ?_
    clear hK K
    replace q3 := q3.on hbz
    replace q4 := q4.on hbz
    replace bel6 := below_on bel6 hbz
    generalize w6.alloc (.cells (madeCells #[.int .u8 0] Z) 5) = w7 at q3 q4 bel6 ho ⊢
    refine anyT_takeT (i := 10) (v := .slice (some ⟨w6.heap.size, 0, none⟩) Z Z) rfl (by kernel_rfl) (by kernel_rfl) (by kernel_rfl) (by kernel_rfl) (fun _ _ _ h => h) (Or.inl ⟨by rfl, fun X _ => by (go_simp <;> omega)⟩) trivial (fun _ => trivial) ?_
    simp only [Act.put, List.getElem_toArray, List.getElem_cons_zero, List.getElem_cons_succ, List.setIfInBounds_toArray, List.set_cons_zero, List.set_cons_succ]
    refine anyT_done (by kernel_rfl) ?_ _
    refine NoPanic.normal ?_
    go_wp2_with (fail)
    (try simp only [Exit.inBlock, Exit.then])
    refine bodyPost_ret (results_four rfl _ _ _) rfl ?_
    exact ⟨_, _, _, ys, z, _, _, _, zs, _, _, _, _, rfl, ⟨hk, hk4, by omega, hz, hys, hzs, nought_byte Z⟩, .of (owns_mono q3.1 z1), .of (owns_mono q4.1 z3), .of ho, bel6⟩

end Go.Proofs.YtepbidaoloplbaaDoor

namespace Go.Proofs.YtepbidaoloplbaaDoor.Alt
open Go.RowKit
set_option maxRecDepth 100000

theorem l5DrawCount_any (a : Nat) (p : Option Addr) (n c : Nat) (xs : List Int) (w : World) (hcur : Cur w a p n c xs) :
    Calls Altd.prog 25 #[.pointer (some ⟨a, 0, none⟩)] w fun e w' => ∃ z : Int, e = .returned (.int .i64 z) ∧ (-1 ≤ z ∧ z ≤ 4294967296) ∧ Cur w' a p n c xs ∧ w.grownBy w' (some a) := by
  have hb0 : Below w.heap.size w (w.alloc (.cells (([0, 1, 7, 4294967295, 4294967296, -1] : List Int).map (Value.int .i64)).toArray 3)) := (Below.refl _ _).alloc (Nat.le_refl _) _
  have ha := hcur.lt
  go_enter Altd.func25, Altd.ntmps25
  go_wp2_with (fail)
  refine (l1PickInt_any a p n c xs w.heap.size 6 [0, 1, 7, 4294967295, 4294967296, -1] _ (by omega) (by omega) rfl (lit_ints w [0, 1, 7, 4294967295, 4294967296, -1] 3) (by omega) (hcur.below hb0 ha hcur.code_lt)).mono ?_
  rintro e w2 ⟨z, hz, rfl, hc2, g2⟩
  have gg : w.grownBy w2 (some a) := grown_trans (World.grownBy_alloc w _ _) g2
  have lz : -1 ≤ z ∧ z ≤ 4294967296 := by
    simp only [List.mem_cons, List.not_mem_nil, or_false] at hz
    omega
  clear hz hb0 g2
  go_wp2_with (fail)
  go_ret
  exact ⟨z, rfl, lz, hc2, gg⟩

set_option maxHeartbeats 2000000 in
theorem dBlock (p : Option Addr) (n c : Nat) (xs : List Int) (w : World) (hn : n ≤ 1048576) (hx : xs.length = n) (hb : BytesIn w p n xs) (hr : ∀ x ∈ xs, 0 ≤ x ∧ x < 256) :
    Calls Altd.prog 9 #[.slice p n c] w fun e w' => ∃ g1 k1 c1 ys z g2 k2 c2 zs, e = .returned (.tuple #[.slice (some ⟨g1, 0, none⟩) k1 c1, .int .i64 z, .slice (some ⟨g2, 0, none⟩) k2 c2]) ∧ (k1 ≤ 1000 ∧ k2 ≤ 1000 ∧ (-1 ≤ z ∧ z ≤ 4294967296) ∧ (∀ y ∈ ys, 0 ≤ y ∧ y < 256) ∧ ∀ y ∈ zs, 0 ≤ y ∧ y < 256) ∧ Own 5 w' w.heap.size w'.heap.size (.slice (some ⟨g1, 0, none⟩) k1 c1) k1 ys ∧ Own 5 w' w.heap.size w'.heap.size (.slice (some ⟨g2, 0, none⟩) k2 c2) k2 zs ∧ Below w.heap.size w w' := by
  go_enter Altd.func9, Altd.ntmps9
  go_wp2_with (fail)
  refine (l1New_any p n c xs _ hn hx hb hr).mono ?_
  rintro e w1 ⟨a, rfl, ha, ha1, hc1, b1⟩
  have CN := l1DrawNear_any a p n c xs 32 w1 (by omega) (by omega) hc1
  go_wp2_with (fail)
  refine CN.mono ?_
  rintro e w2 ⟨g, k, ck, ys, rfl, hk, o2, hys, hc2, g2⟩
  have bel2 := below_cur b1 g2 ha
  clear CN
  go_wp2_with (fail)
  refine (l5DrawCount_any a p n c xs _ hc2).mono ?_
  rintro e w3 ⟨z, rfl, hz, hc3, g3⟩
  have o3 := o2.cur g3 ha1
  have bel3 := below_cur bel2 g3 ha
  have CM := l1DrawNear_any a p n c xs 12 w3 (by omega) (by omega) hc3
  go_wp2_with (fail)
  refine CM.mono ?_
  rintro e w4 ⟨g4, k4, c4, zs, rfl, hk4, o4, hzs, hc4, gg4⟩
  have o3' := o3.cur gg4 ha1
  have bel4 := below_cur bel3 gg4 ha
  clear CM
  go_wp2_with (fail)
  go_ret3
  exact ⟨_, _, _, ys, z, _, _, _, zs, rfl, ⟨hk, hk4, hz, hys, hzs⟩, .of (owns_mono o3'.1 b1.size), .of (owns_mono o4.1 bel3.size), bel4⟩

set_option maxHeartbeats 8000000 in
theorem dStream (p : Option Addr) (n c : Nat) (xs : List Int) (w : World) (hn : n ≤ 1048576) (hx : xs.length = n) (hb : BytesIn w p n xs) (hr : ∀ x ∈ xs, 0 ≤ x ∧ x < 256) :
    Calls Altd.prog 7 #[.slice p n c] w fun e w' => ∃ g1 k1 c1 ys z g2 k2 c2 zs g3 k3 c3 us, e = .returned (.tuple #[.slice (some ⟨g1, 0, none⟩) k1 c1, .int .i64 z, .slice (some ⟨g2, 0, none⟩) k2 c2, .slice (some ⟨g3, 0, none⟩) k3 c3]) ∧ (k1 ≤ 1000 ∧ k2 ≤ 1000 ∧ k3 ≤ 1000 ∧ (-1 ≤ z ∧ z ≤ 4294967296) ∧ (∀ y ∈ ys, 0 ≤ y ∧ y < 256) ∧ (∀ y ∈ zs, 0 ≤ y ∧ y < 256) ∧ ∀ y ∈ us, 0 ≤ y ∧ y < 256) ∧ Own 5 w' w.heap.size w'.heap.size (.slice (some ⟨g1, 0, none⟩) k1 c1) k1 ys ∧ Own 5 w' w.heap.size w'.heap.size (.slice (some ⟨g2, 0, none⟩) k2 c2) k2 zs ∧ Own 5 w' w.heap.size w'.heap.size (.slice (some ⟨g3, 0, none⟩) k3 c3) k3 us ∧ Below w.heap.size w w' := by
  obtain ⟨i0, hi, hz0, hz1, hz2⟩ := info_parts infoByte
  go_enter Altd.func7, Altd.ntmps7
  go_wp2_with (fail)
  refine (l1New_any p n c xs _ hn hx hb hr).mono ?_
  rintro e w1 ⟨a, rfl, ha, ha1, hc1, b1⟩
  have CN := l1DrawNear_any a p n c xs 32 w1 (by omega) (by omega) hc1
  go_wp2_with (fail)
  refine CN.mono ?_
  rintro e w2 ⟨g, k, ck, ys, rfl, hk, o2, hys, hc2, g2⟩
  have bel2 := below_cur b1 g2 ha
  clear CN
  go_wp2_with (fail)
  refine (l5DrawCount_any a p n c xs _ hc2).mono ?_
  rintro e w3 ⟨z, rfl, hz, hc3, g3⟩
  have o3 := o2.cur g3 ha1
  have bel3 := below_cur bel2 g3 ha
  have CM := l1DrawNear_any a p n c xs 12 w3 (by omega) (by omega) hc3
  go_wp2_with (fail)
  refine CM.mono ?_
  rintro e w4 ⟨g4, k4, c4, zs, rfl, hk4, o4, hzs, hc4, gg4⟩
  have o3' := o3.cur gg4 ha1
  have bel4 := below_cur bel3 gg4 ha
  have ha3 := hc3.lt
  have z1 := b1.size
  have z3 := bel3.size
  clear CM hc1 hc2 hc3 o2 o3 hx hb hr b1 bel2 bel3 g2 g3 gg4
  go_wp2_with (fail)
  refine (l1Once_any a p n c xs 20 _ (by omega) (by omega) hc4).mono ?_
  rintro e w5 ⟨b, rfl, hc5, g5⟩
  have p3 := o3'.cur g5 ha1
  have p4 := o4.cur g5 ha3
  have bel5 := below_cur bel4 g5 ha
  clear o3' o4 bel4 hc4 g5
  cases b
  · go_wp2_with (fail)
    refine (l1DrawBytes_any a p n c xs 70 _ (by omega) (by omega) hc5).mono ?_
    rintro e w6 ⟨g6, k6, c6, us, rfl, hk6, o6, hus, hc6, gg6⟩
    have q3 := p3.cur gg6 ha1
    have q4 := p4.cur gg6 ha3
    have bel6 := below_cur bel5 gg6 ha
    go_wp2_with (fail)
    (try simp only [Exit.inBlock, Exit.then])
    refine bodyPost_ret (results_four rfl _ _ _) rfl ?_
    exact ⟨_, _, _, ys, z, _, _, _, zs, _, _, _, us, rfl, ⟨hk, hk4, by omega, hz, hys, hzs, hus⟩, .of (owns_mono q3.1 z1), .of (owns_mono q4.1 z3), .of (owns_mono o6.1 bel5.size), bel6⟩
  · go_wp2_with (fail)
    refine wp_region_noPanic ?_
    refine wp_region_T 11 (fun _ => True) (fun _ => True) (by kernel_rfl) ?_
    obtain ⟨wd, hwd⟩ : ∃ wd, wd = w5.drew := ⟨_, rfl⟩
    have bd : Below w5.heap.size w5 wd := by rw [hwd]; exact (Below.refl _ _).drew
    rw [← hwd]
    replace p3 := p3.on bd
    replace p4 := p4.on bd
    replace hc5 := hc5.below bd hc5.lt hc5.code_lt
    replace bel5 := below_on bel5 bd
    clear hwd bd
    refine anyT_takeT (i := 0) (v := .slice (some ⟨g, 0, none⟩) k ck) rfl (by kernel_rfl) (by kernel_rfl) (by kernel_rfl) (by kernel_rfl) (fun _ _ _ h => h) (Or.inl ⟨by rfl, fun X _ => by (go_simp <;> omega)⟩) trivial (fun _ => trivial) ?_
    simp only [Act.put, List.getElem_toArray, List.getElem_cons_zero, List.setIfInBounds_toArray, List.set_cons_zero, List.set_cons_succ]
    refine anyT_takeT (i := 1) (v := .int .i64 z) rfl (by kernel_rfl) (by kernel_rfl) (by kernel_rfl) (by kernel_rfl) (fun _ _ _ h => h) (Or.inl ⟨by rfl, fun X _ => by (go_simp <;> omega)⟩) trivial (fun _ => trivial) ?_
    simp only [Act.put, List.getElem_toArray, List.getElem_cons_zero, List.getElem_cons_succ, List.setIfInBounds_toArray, List.set_cons_zero, List.set_cons_succ]
    refine anyT_takeT (i := 2) (v := .slice (some ⟨g4, 0, none⟩) k4 c4) rfl (by kernel_rfl) (by kernel_rfl) (by kernel_rfl) (by kernel_rfl) (fun _ _ _ h => h) (Or.inl ⟨by rfl, fun X _ => by (go_simp <;> omega)⟩) trivial (fun _ => trivial) ?_
    simp only [Act.put, List.getElem_toArray, List.getElem_cons_zero, List.getElem_cons_succ, List.setIfInBounds_toArray, List.set_cons_zero, List.set_cons_succ]
    refine anyT_takeT (i := 3) (v := .pointer (some ⟨a, 0, none⟩)) rfl (by kernel_rfl) (by kernel_rfl) (by kernel_rfl) (by kernel_rfl) (fun _ _ _ h => h) (Or.inl ⟨by rfl, fun X _ => by (go_simp <;> omega)⟩) trivial (fun _ => trivial) ?_
    simp only [Act.put, List.getElem_toArray, List.getElem_cons_zero, List.getElem_cons_succ, List.setIfInBounds_toArray, List.set_cons_zero, List.set_cons_succ]
    refine anyT_one (i := 4) (by kernel_rfl) rfl (fun K hK => ?_)
    go_simp
    refine (l1Below_any a p n c xs 10 _ (by omega) (by omega) hc5).mono ?_
    rintro e w6 ⟨x, rfl, hx0, hx1, hc6, gg6⟩
    have q3 := p3.cur gg6 ha1
    have q4 := p4.cur gg6 ha3
    have bel6 := below_cur bel5 gg6 ha
    clear p3 p4 bel5
    go_simp
    refine hK.out _ _ trivial (fun _ => trivial) ?_
    clear hK K
    obtain ⟨Z, hZ⟩ : ∃ Z : Nat, 60 + x = (Z : Int) := ⟨(60 + x).toNat, by omega⟩
    have hwZ : IntKind.i64.wrap (Z : Int) = (Z : Int) := by rw [IntKind.wrap_i64]; omega
    have hmk := makeB Z (by omega)
    have ho := madeB_own w6 w.heap.size Z bel6.size (by omega)
    have hbz : Below w6.heap.size w6 (w6.alloc (.cells (madeCells #[.int .u8 0] Z) 5)) := (Below.refl _ _).alloc (Nat.le_refl _) _
    refine anyT_takeT (i := 5) (v := .int .i64 (Z : Int)) rfl (by kernel_rfl) (by kernel_rfl) (by kernel_rfl) (by kernel_rfl) (fun _ _ _ h => h) (Or.inl ⟨by rfl, fun X _ => by (go_simp <;> omega)⟩) trivial (fun _ => trivial) ?_
    simp only [Act.put, List.getElem_toArray, List.getElem_cons_zero, List.getElem_cons_succ, List.setIfInBounds_toArray, List.set_cons_zero, List.set_cons_succ]
    refine anyT_takeT (i := 7) (v := .slice (some ⟨g, 0, none⟩) k ck) rfl (by kernel_rfl) (by kernel_rfl) (by kernel_rfl) (by kernel_rfl) (fun _ _ _ h => h) (Or.inl ⟨by rfl, fun X _ => by (go_simp <;> omega)⟩) trivial (fun _ => trivial) ?_
    simp only [Act.put, List.getElem_toArray, List.getElem_cons_zero, List.getElem_cons_succ, List.setIfInBounds_toArray, List.set_cons_zero, List.set_cons_succ]
    refine anyT_takeT (i := 8) (v := .int .i64 z) rfl (by kernel_rfl) (by kernel_rfl) (by kernel_rfl) (by kernel_rfl) (fun _ _ _ h => h) (Or.inl ⟨by rfl, fun X _ => by (go_simp <;> omega)⟩) trivial (fun _ => trivial) ?_
    simp only [Act.put, List.getElem_toArray, List.getElem_cons_zero, List.getElem_cons_succ, List.setIfInBounds_toArray, List.set_cons_zero, List.set_cons_succ]
    refine anyT_takeT (i := 9) (v := .slice (some ⟨g4, 0, none⟩) k4 c4) rfl (by kernel_rfl) (by kernel_rfl) (by kernel_rfl) (by kernel_rfl) (fun _ _ _ h => h) (Or.inl ⟨by rfl, fun X _ => by (go_simp <;> omega)⟩) trivial (fun _ => trivial) ?_
    simp only [Act.put, List.getElem_toArray, List.getElem_cons_zero, List.getElem_cons_succ, List.setIfInBounds_toArray, List.set_cons_zero, List.set_cons_succ]
    refine anyT_one (i := 6) (by kernel_rfl) rfl (fun K hK => ?_)
    go_simp
    refine hK.out _ _ trivial (fun _ => trivial) ?_
    clear hK K
    replace q3 := q3.on hbz
    replace q4 := q4.on hbz
    replace bel6 := below_on bel6 hbz
    generalize w6.alloc (.cells (madeCells #[.int .u8 0] Z) 5) = w7 at q3 q4 bel6 ho ⊢
    refine anyT_takeT (i := 10) (v := .slice (some ⟨w6.heap.size, 0, none⟩) Z Z) rfl (by kernel_rfl) (by kernel_rfl) (by kernel_rfl) (by kernel_rfl) (fun _ _ _ h => h) (Or.inl ⟨by rfl, fun X _ => by (go_simp <;> omega)⟩) trivial (fun _ => trivial) ?_
    simp only [Act.put, List.getElem_toArray, List.getElem_cons_zero, List.getElem_cons_succ, List.setIfInBounds_toArray, List.set_cons_zero, List.set_cons_succ]
    refine anyT_done (by kernel_rfl) ?_ _
    refine NoPanic.normal ?_
    go_wp2_with (fail)
    (try simp only [Exit.inBlock, Exit.then])
    refine bodyPost_ret (results_four rfl _ _ _) rfl ?_
    exact ⟨_, _, _, ys, z, _, _, _, zs, _, _, _, _, rfl, ⟨hk, hk4, by omega, hz, hys, hzs, nought_byte Z⟩, .of (owns_mono q3.1 z1), .of (owns_mono q4.1 z3), .of ho, bel6⟩

end Go.Proofs.YtepbidaoloplbaaDoor.Alt

namespace Go.Proofs.YtepbidaoloplbaaDoor
open Go.RowKit

theorem implSame_any (p q : Option Addr) (n m c d : Nat) (xs ys : List Int) (w : World) (hx : xs.length = n) (hy : ys.length = m) (h : BytesIn w p n xs) (h' : BytesIn w q m ys) :
    Calls Tryd.prog 11 #[.slice p n c, .slice q m d] w fun e w' => e = .returned (.bool ((strOfNums xs).toList == (strOfNums ys).toList)) ∧ Below w.heap.size w w' := by
  have g := text_of (P := Tryd.prog) h hx c 22 5 9 Tryd.underlying22 Tryd.underlying5 Tryd.underlying9
  have g' := text_of (P := Tryd.prog) h' hy d 22 5 9 Tryd.underlying22 Tryd.underlying5 Tryd.underlying9
  go_enter Tryd.func11, Tryd.ntmps11
  go_wp2
  go_ret
  exact ⟨rfl, Below.refl _ _⟩

end Go.Proofs.YtepbidaoloplbaaDoor

namespace Go.Proofs.YtepbidaoloplbaaDoor.Alt
open Go.RowKit

theorem implSame_any (p q : Option Addr) (n m c d : Nat) (xs ys : List Int) (w : World) (hx : xs.length = n) (hy : ys.length = m) (h : BytesIn w p n xs) (h' : BytesIn w q m ys) :
    Calls Altd.prog 11 #[.slice p n c, .slice q m d] w fun e w' => e = .returned (.bool ((strOfNums xs).toList == (strOfNums ys).toList)) ∧ Below w.heap.size w w' := by
  have g := text_of (P := Altd.prog) h hx c 22 5 9 Altd.underlying22 Altd.underlying5 Altd.underlying9
  have g' := text_of (P := Altd.prog) h' hy d 22 5 9 Altd.underlying22 Altd.underlying5 Altd.underlying9
  go_enter Altd.func11, Altd.ntmps11
  go_wp2
  go_ret
  exact ⟨rfl, Below.refl _ _⟩

end Go.Proofs.YtepbidaoloplbaaDoor.Alt

namespace Go.Proofs.YtepbidaoloplbaaDoor
open Go.RowKit

theorem big_small (p : Option Addr) (n c : Nat) (w : World) (hn : n ≤ 1048576) : Calls Tryd.prog 6 #[.slice p n c] w fun e w' => e = .returned (.bool false) ∧ Below w.heap.size w w' := by
  have hd : decide ((1048576 : Int) < (n : Int)) = false := by simp; omega
  go_enter Tryd.func6, Tryd.ntmps6
  go_wp2
  go_ret
  refine ⟨?_, Below.refl _ _⟩
  first | rfl | (congr 2)

theorem big_great (p : Option Addr) (n c : Nat) (w : World) (hn : ¬ n ≤ 1048576) : Calls Tryd.prog 6 #[.slice p n c] w fun e w' => e = .returned (.bool true) ∧ Below w.heap.size w w' := by
  have hd : (1048576 : Int) < (n : Int) := by omega
  go_enter Tryd.func6, Tryd.ntmps6
  go_wp2
  go_ret
  exact ⟨by simp, Below.refl _ _⟩

theorem in_prefix {w : World} {p : Option Addr} {n m : Nat} {xs : List Int} (h : BytesIn w p n xs) (hm : m ≤ n) : BytesIn w p m (xs.take m) := by
  intro h0
  obtain ⟨b, o, rfl, hc⟩ := h (by omega)
  refine ⟨b, o, rfl, fun i hi => ?_⟩
  rw [hc i (by omega)]
  simp [hi]

end Go.Proofs.YtepbidaoloplbaaDoor

namespace Go.Proofs.YtepbidaoloplbaaDoor.Alt
open Go.RowKit

theorem big_small (p : Option Addr) (n c : Nat) (w : World) (hn : n ≤ 1048576) : Calls Altd.prog 6 #[.slice p n c] w fun e w' => e = .returned (.bool false) ∧ Below w.heap.size w w' := by
  have hd : decide ((1048576 : Int) < (n : Int)) = false := by simp; omega
  go_enter Altd.func6, Altd.ntmps6
  go_wp2
  go_ret
  refine ⟨?_, Below.refl _ _⟩
  first | rfl | (congr 2)

theorem big_great (p : Option Addr) (n c : Nat) (w : World) (hn : ¬ n ≤ 1048576) : Calls Altd.prog 6 #[.slice p n c] w fun e w' => e = .returned (.bool true) ∧ Below w.heap.size w w' := by
  have hd : (1048576 : Int) < (n : Int) := by omega
  go_enter Altd.func6, Altd.ntmps6
  go_wp2
  go_ret
  exact ⟨by simp, Below.refl _ _⟩

end Go.Proofs.YtepbidaoloplbaaDoor.Alt

namespace Go.Proofs.YtepbidaoloplbaaDoor
open Go.RowKit

theorem at_any (p : Option Addr) (n c : Nat) (xs : List Int) (i : Nat) (w : World) (hn : n ≤ 1048576) (hi : i ≤ 100) (h : BytesIn w p n xs) (hb : ∀ x ∈ xs, 0 ≤ x ∧ x < 256) :
    Calls Tryd.prog 14 #[.slice p n c, .int .i64 (i : Int)] w fun e w' => ∃ v : Int, e = .returned (.int .i64 v) ∧ (0 ≤ v ∧ v < 256) ∧ w' = w := by
  by_cases hlt : i < n
  · have hlt' : (i : Int) < (n : Int) := by omega
    obtain ⟨b, o, rfl, hc⟩ := h (by omega)
    have cx := hc i hlt
    have hv : 0 ≤ xs.getD i 0 ∧ xs.getD i 0 < 256 := by
      rw [List.getD_eq_getElem?_getD]
      cases hk : xs[i]? with
      | none => simp
      | some x => exact hb x (List.mem_of_getElem? hk)
    generalize xs.getD i 0 = v at cx hv
    clear h hc hb
    go_enter Tryd.func14, Tryd.ntmps14
    go_wp2_with (fail)
    go_ret
    exact ⟨v, rfl, hv, rfl⟩
  · have hlt' : ¬ (i : Int) < (n : Int) := by omega
    clear h hb
    obtain ⟨u, hu⟩ : ∃ u : Nat, u = i * 7 := ⟨_, rfl⟩
    obtain ⟨s, hs⟩ : ∃ s : Nat, s = u + n := ⟨_, rfl⟩
    have eu : (i : Int) * 7 = (u : Int) := by omega
    have es : (u : Int) + (n : Int) = (s : Int) := by omega
    have ls : (s : Int) < 2000000 := by omega
    have lu : (u : Int) < 1000 := by omega
    have et : Int.tmod (s : Int) 256 = (s : Int) % 256 := Int.tmod_eq_emod_of_nonneg (by omega)
    obtain ⟨v, hv⟩ : ∃ v, v = (s : Int) % 256 := ⟨_, rfl⟩
    have hv2 : 0 ≤ v ∧ v < 256 := by omega
    rw [← hv] at et
    clear hu hs hv
    go_enter Tryd.func14, Tryd.ntmps14
    go_wp2_with (fail)
    go_ret
    exact ⟨v, rfl, hv2, rfl⟩

end Go.Proofs.YtepbidaoloplbaaDoor

namespace Go.Proofs.YtepbidaoloplbaaDoor.Alt
open Go.RowKit

theorem at_any (p : Option Addr) (n c : Nat) (xs : List Int) (i : Nat) (w : World) (hn : n ≤ 1048576) (hi : i ≤ 100) (h : BytesIn w p n xs) (hb : ∀ x ∈ xs, 0 ≤ x ∧ x < 256) :
    Calls Altd.prog 14 #[.slice p n c, .int .i64 (i : Int)] w fun e w' => ∃ v : Int, e = .returned (.int .i64 v) ∧ (0 ≤ v ∧ v < 256) ∧ w' = w := by
  by_cases hlt : i < n
  · have hlt' : (i : Int) < (n : Int) := by omega
    obtain ⟨b, o, rfl, hc⟩ := h (by omega)
    have cx := hc i hlt
    have hv : 0 ≤ xs.getD i 0 ∧ xs.getD i 0 < 256 := by
      rw [List.getD_eq_getElem?_getD]
      cases hk : xs[i]? with
      | none => simp
      | some x => exact hb x (List.mem_of_getElem? hk)
    generalize xs.getD i 0 = v at cx hv
    clear h hc hb
    go_enter Altd.func14, Altd.ntmps14
    go_wp2_with (fail)
    go_ret
    exact ⟨v, rfl, hv, rfl⟩
  · have hlt' : ¬ (i : Int) < (n : Int) := by omega
    clear h hb
    obtain ⟨u, hu⟩ : ∃ u : Nat, u = i * 7 := ⟨_, rfl⟩
    obtain ⟨s, hs⟩ : ∃ s : Nat, s = u + n := ⟨_, rfl⟩
    have eu : (i : Int) * 7 = (u : Int) := by omega
    have es : (u : Int) + (n : Int) = (s : Int) := by omega
    have ls : (s : Int) < 2000000 := by omega
    have lu : (u : Int) < 1000 := by omega
    have et : Int.tmod (s : Int) 256 = (s : Int) % 256 := Int.tmod_eq_emod_of_nonneg (by omega)
    obtain ⟨v, hv⟩ : ∃ v, v = (s : Int) % 256 := ⟨_, rfl⟩
    have hv2 : 0 ≤ v ∧ v < 256 := by omega
    rw [← hv] at et
    clear hu hs hv
    go_enter Altd.func14, Altd.ntmps14
    go_wp2_with (fail)
    go_ret
    exact ⟨v, rfl, hv2, rfl⟩

end Go.Proofs.YtepbidaoloplbaaDoor.Alt
