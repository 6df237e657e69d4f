/-
  What the laws' draws of chapter 3 make of any code: some bytes of their own, at most 4001. Condition: the code is of bytes, at most 2^20.
  What the draws of a tag's law answer: a key of 32 bytes or so, and some bytes.
  What the draws of a tag's law answer: a key of 32 bytes or so, and some bytes.
  What the draws of chapter 2 hand over, whatever bytes they are drawn from: two ints, bytes and a yes or no, some ints and a yes or no; condition: at most 1048576 bytes, each of them one.
  What the draws of chapter 2 hand over, whatever bytes they are drawn from: two ints, bytes and a yes or no, some ints and a yes or no; condition: at most 1048576 bytes, each of them one.
  A row of bytes 0 that is made; the beginning of a row.
  A row of bytes 0 that is made; the beginning of a row.
  What the draws of chapter 5's laws answer: keys, a count, nonces, texts; 16 numbers or so and places.
  What the draws of chapter 5's laws answer: keys, a count, nonces, texts; 16 numbers or so and places.
  What spec.Same and impl.Same answer, whatever bytes they are given; no condition.
  What spec.Same and impl.Same answer, whatever bytes they are given; no condition.
  What the laws' helper big answers of a code's length, and a list's beginning; no condition.
  What the laws' helper big answers of a code's length, and a list's beginning; no condition.
  What the laws' at answers.
  What the laws' at answers.
  What the laws' helper sameInts does, whatever ints it is given: it compares; and its helper words: the word of each; conditions: a length is an int's; at most 1048576 ints.
  What the laws' helper sameInts does, whatever ints it is given: it compares; and its helper words: the word of each; conditions: a length is an int's; at most 1048576 ints.
-/
import Derived.Test.YtepbidaoloplbaaDoorParb27
import Derived.Test.YtepbidaoloplbaaDoorParb11
import Derived.Test.YtepbidaoloplbaaDoorParb09
import Derived.Test.YtepbidaoloplbaaDoorParb12
import Derived.Test.YtepbidaoloplbaaDoorParb08
import Derived.Test.YtepbidaoloplbaaDoorParb22
namespace Go.Proofs.YtepbidaoloplbaaDoor.Alt
open Go.RowKit

set_option maxHeartbeats 2000000 in
theorem l1DrawJust_any (a : Nat) (p : Option Addr) (n c : Nat) (xs : List Int) (K : Nat) (w : World) (hK : K ≤ 1000) (hcur : Cur w a p n c xs) :
    Calls Altd.prog 45 #[.pointer (some ⟨a, 0, none⟩), .int .i64 K] w fun e w' => ∃ g k c' ys, e = .returned (.slice (some ⟨g, 0, none⟩) k c') ∧ k ≤ 1000 ∧ Own 5 w' w.heap.size w'.heap.size (.slice (some ⟨g, 0, none⟩) k c') k ys ∧ (∀ y ∈ ys, 0 ≤ y ∧ y < 256) ∧ Cur w' a p n c xs ∧ w.grownBy w' (some a) := by
  obtain ⟨i0, hi, hz0, hz1, hz2⟩ := info_parts infoByte
  have ha := hcur.lt
  have hcl := hcur.code_lt
  go_enter Altd.func45, Altd.ntmps45
  go_wp2_with (fail)
  have hb0 : Below w.heap.size w (w.alloc (.cells #[] 5)) := (Below.refl _ _).alloc (Nat.le_refl _) _
  have o1 : (w.alloc (.cells #[] 5)).ownsRow w.heap.size 5 1 (.slice (some ⟨w.heap.size, 0, none⟩) 0 0) 0 (([] : List Int).map (Value.int .u8)) := World.ownsRow_made w #[] 0 (Nat.le_refl _) (by unfold maxLen; omega) rfl
  have hc1 := hcur.below hb0 ha hcl
  have gg : w.grownBy (w.alloc (.cells #[] 5)) (some a) := World.grownBy_alloc w _ _
  go_loopw [5, 6] (fun v i wr => ∃ (k : Nat) (ys : List Int), k ≤ K ∧ i = .int .i64 k ∧ Hid (∃ g cap, v = .slice (some ⟨g, 0, none⟩) k cap) ∧ wr.ownsRow w.heap.size 5 1 v k (ys.map (Value.int .u8)) ∧ Hid (∀ y ∈ ys, 0 ≤ y ∧ y < 256) ∧ Cur wr a p n c xs ∧ w.grownBy wr (some a))
    (fun _ i _ => K - (intOf i).toNat)
  case atStart => exact ⟨0, [], Nat.zero_le _, rfl, ⟨_, _, rfl⟩, o1, (fun y hy => by cases hy), hc1, gg⟩
  case round =>
    clear o1 gg hc1 hb0
    obtain ⟨k, ys, hk, rfl, hform, hown, hys, hc, hgr⟩ := hrel
    have hsz := hgr.size
    by_cases hlt : k < K
    · go_wp2_with (fail)
      refine (l1Below_any a p n c xs 256 _ (by omega) (by omega) hc).mono ?_
      rintro e w2 ⟨y, rfl, hy0, hy1, hc2, g2⟩
      have o2 := owns_cur hown g2 ha
      have gg := grown_trans hgr g2
      have hsz2 := gg.size
      have hys2 : Hid (∀ z ∈ ys ++ [y], 0 ≤ z ∧ z < 256) := by
        intro z hz
        rcases List.mem_append.1 hz with h | h
        · exact hys.out z h
        · simp at h; subst h; exact ⟨hy0, hy1⟩
      clear hown hc hgr hys hform
      go_wp2_with (at_builtin; refine list_pushK hi hz0 hz1 hz2 (.tmp 13) (.tmp 17) 22 Altd.underlying22 _ o2 (by omega) hsz2 (by rfl) (by rfl) (by rfl) (by rfl) ?_; intro g cap w3 ho3 hb3 hkk)
      go_roundw
      case rel => exact ⟨k + 1, ys ++ [y], by omega, by go_num, ⟨_, _, rfl⟩, ho3, hys2, hc2.below hb3 ha hcl, grown_below gg hb3⟩
      case measure => simp [intOf]; omega
    · obtain ⟨g, c', hv⟩ := hform.out
      clear hform
      subst hv
      go_wp2
      go_ret
      exact ⟨g, k, c', ys, rfl, by omega, .of hown, hys.out, hc, hgr⟩

end Go.Proofs.YtepbidaoloplbaaDoor.Alt

namespace Go.Proofs.YtepbidaoloplbaaDoor
open Go.RowKit

theorem l1Max_zero (K : Nat) (w : World) : Calls Tryd.prog 46 #[.int .i64 (K : Int), .int .i64 0] w fun e w' => e = .returned (.int .i64 (K : Int)) ∧ w' = w := by
  by_cases h : (0 : Int) < (K : Int)
  · go_enter Tryd.func46, Tryd.ntmps46
    go_wp2
    go_ret
    exact ⟨rfl, rfl⟩
  · obtain rfl : K = 0 := by omega
    go_enter Tryd.func46, Tryd.ntmps46
    go_wp2
    go_ret
    exact ⟨rfl, rfl⟩

set_option maxHeartbeats 2000000 in
theorem l1DrawNear_any (a : Nat) (p : Option Addr) (n c : Nat) (xs : List Int) (K : Nat) (w : World) (hK1 : 1 ≤ K) (hK2 : K ≤ 500) (hcur : Cur w a p n c xs) :
    Calls Tryd.prog 24 #[.pointer (some ⟨a, 0, none⟩), .int .i64 (K : Int)] w fun e w' => ∃ g k c' ys, e = .returned (.slice (some ⟨g, 0, none⟩) k c') ∧ k ≤ 1000 ∧ Own 5 w' w.heap.size w'.heap.size (.slice (some ⟨g, 0, none⟩) k c') k ys ∧ (∀ y ∈ ys, 0 ≤ y ∧ y < 256) ∧ Cur w' a p n c xs ∧ w.grownBy w' (some a) := by
  obtain ⟨U, hU⟩ : ∃ U : Nat, U = K + 1 := ⟨_, rfl⟩
  obtain ⟨D, hD⟩ : ∃ D : Nat, D = K - 1 := ⟨_, rfl⟩
  have eU : (K : Int) + 1 = (U : Int) := by omega
  have eD : (K : Int) - 1 = (D : Int) := by omega
  have CU := fun w h => l1DrawJust_any a p n c xs U w (by omega) h
  have CD := fun w h => l1DrawJust_any a p n c xs D w (by omega) h
  have CK := fun w h => l1DrawJust_any a p n c xs K w (by omega) h
  clear hU hD
  go_enter Tryd.func24, Tryd.ntmps24
  go_wp2_with (fail)
  refine (l1Below_any a p n c xs 16 _ (by omega) (by omega) hcur).mono ?_
  rintro e w1 ⟨x, rfl, hx0, hx1, hc1, g1⟩
  by_cases h0 : x = 0
  · subst h0
    go_wp2_with (fail)
    refine (CU _ hc1).mono ?_
    rintro e w2 ⟨g, k, c', ys, rfl, hk, o2, hys, hc2, g2⟩
    go_wp2_with (fail)
    go_ret
    exact ⟨g, k, c', ys, rfl, hk, o2.mono g1.size (Nat.le_refl _), hys, hc2, grown_trans g1 g2⟩
  · by_cases h1 : x = 1
    · subst h1
      go_wp2_with (fail)
      refine (l1Max_zero D _).mono ?_
      rintro e w1 ⟨rfl, rfl⟩
      go_wp2_with (fail)
      refine (CD _ hc1).mono ?_
      rintro e w2 ⟨g, k, c', ys, rfl, hk, o2, hys, hc2, g2⟩
      go_wp2_with (fail)
      go_ret
      exact ⟨g, k, c', ys, rfl, hk, o2.mono g1.size (Nat.le_refl _), hys, hc2, grown_trans g1 g2⟩
    · by_cases h2 : x = 2
      · subst h2
        go_wp2
        go_ret
        exact ⟨_, 0, _, [], rfl, by omega, .of (World.ownsRow_made w1 #[] 0 g1.size (by unfold maxLen; omega) rfl), (fun y hy => by cases hy), hc1.below ((Below.refl w1.heap.size w1).alloc (Nat.le_refl _) _) hc1.lt hc1.code_lt, grown_trans g1 (World.grownBy_alloc w1 _ _)⟩
      · have d0 : (x == 0) = false := by simpa using h0
        have d1 : (x == 1) = false := by simpa using h1
        have d2 : (x == 2) = false := by simpa using h2
        go_wp2_with (fail)
        refine (CK _ hc1).mono ?_
        rintro e w2 ⟨g, k, c', ys, rfl, hk, o2, hys, hc2, g2⟩
        go_wp2_with (fail)
        go_ret
        exact ⟨g, k, c', ys, rfl, hk, o2.mono g1.size (Nat.le_refl _), hys, hc2, grown_trans g1 g2⟩

/-- The first k all 255, the others nought. -/
def fulls (k : Nat) : List Int := List.replicate k 255 ++ List.replicate (32 - k) 0

end Go.Proofs.YtepbidaoloplbaaDoor

namespace Go.Proofs.YtepbidaoloplbaaDoor.Alt
open Go.RowKit

theorem l1Max_zero (K : Nat) (w : World) : Calls Altd.prog 46 #[.int .i64 (K : Int), .int .i64 0] w fun e w' => e = .returned (.int .i64 (K : Int)) ∧ w' = w := by
  by_cases h : (0 : Int) < (K : Int)
  · go_enter Altd.func46, Altd.ntmps46
    go_wp2
    go_ret
    exact ⟨rfl, rfl⟩
  · obtain rfl : K = 0 := by omega
    go_enter Altd.func46, Altd.ntmps46
    go_wp2
    go_ret
    exact ⟨rfl, rfl⟩

set_option maxHeartbeats 2000000 in
theorem l1DrawNear_any (a : Nat) (p : Option Addr) (n c : Nat) (xs : List Int) (K : Nat) (w : World) (hK1 : 1 ≤ K) (hK2 : K ≤ 500) (hcur : Cur w a p n c xs) :
    Calls Altd.prog 24 #[.pointer (some ⟨a, 0, none⟩), .int .i64 (K : Int)] w fun e w' => ∃ g k c' ys, e = .returned (.slice (some ⟨g, 0, none⟩) k c') ∧ k ≤ 1000 ∧ Own 5 w' w.heap.size w'.heap.size (.slice (some ⟨g, 0, none⟩) k c') k ys ∧ (∀ y ∈ ys, 0 ≤ y ∧ y < 256) ∧ Cur w' a p n c xs ∧ w.grownBy w' (some a) := by
  obtain ⟨U, hU⟩ : ∃ U : Nat, U = K + 1 := ⟨_, rfl⟩
  obtain ⟨D, hD⟩ : ∃ D : Nat, D = K - 1 := ⟨_, rfl⟩
  have eU : (K : Int) + 1 = (U : Int) := by omega
  have eD : (K : Int) - 1 = (D : Int) := by omega
  have CU := fun w h => l1DrawJust_any a p n c xs U w (by omega) h
  have CD := fun w h => l1DrawJust_any a p n c xs D w (by omega) h
  have CK := fun w h => l1DrawJust_any a p n c xs K w (by omega) h
  clear hU hD
  go_enter Altd.func24, Altd.ntmps24
  go_wp2_with (fail)
  refine (l1Below_any a p n c xs 16 _ (by omega) (by omega) hcur).mono ?_
  rintro e w1 ⟨x, rfl, hx0, hx1, hc1, g1⟩
  by_cases h0 : x = 0
  · subst h0
    go_wp2_with (fail)
    refine (CU _ hc1).mono ?_
    rintro e w2 ⟨g, k, c', ys, rfl, hk, o2, hys, hc2, g2⟩
    go_wp2_with (fail)
    go_ret
    exact ⟨g, k, c', ys, rfl, hk, o2.mono g1.size (Nat.le_refl _), hys, hc2, grown_trans g1 g2⟩
  · by_cases h1 : x = 1
    · subst h1
      go_wp2_with (fail)
      refine (l1Max_zero D _).mono ?_
      rintro e w1 ⟨rfl, rfl⟩
      go_wp2_with (fail)
      refine (CD _ hc1).mono ?_
      rintro e w2 ⟨g, k, c', ys, rfl, hk, o2, hys, hc2, g2⟩
      go_wp2_with (fail)
      go_ret
      exact ⟨g, k, c', ys, rfl, hk, o2.mono g1.size (Nat.le_refl _), hys, hc2, grown_trans g1 g2⟩
    · by_cases h2 : x = 2
      · subst h2
        go_wp2
        go_ret
        exact ⟨_, 0, _, [], rfl, by omega, .of (World.ownsRow_made w1 #[] 0 g1.size (by unfold maxLen; omega) rfl), (fun y hy => by cases hy), hc1.below ((Below.refl w1.heap.size w1).alloc (Nat.le_refl _) _) hc1.lt hc1.code_lt, grown_trans g1 (World.grownBy_alloc w1 _ _)⟩
      · have d0 : (x == 0) = false := by simpa using h0
        have d1 : (x == 1) = false := by simpa using h1
        have d2 : (x == 2) = false := by simpa using h2
        go_wp2_with (fail)
        refine (CK _ hc1).mono ?_
        rintro e w2 ⟨g, k, c', ys, rfl, hk, o2, hys, hc2, g2⟩
        go_wp2_with (fail)
        go_ret
        exact ⟨g, k, c', ys, rfl, hk, o2.mono g1.size (Nat.le_refl _), hys, hc2, grown_trans g1 g2⟩

end Go.Proofs.YtepbidaoloplbaaDoor.Alt

namespace Go.Proofs.YtepbidaoloplbaaDoor
open Go.RowKit

theorem l2DrawNum_any (a : Nat) (p : Option Addr) (n c : Nat) (xs : List Int) (w : World) (hcur : Cur w a p n c xs) :
    Calls Tryd.prog 40 #[.pointer (some ⟨a, 0, none⟩)] w fun e w' => ∃ z : Int, e = .returned (.int .i64 z) ∧ Cur w' a p n c xs ∧ w.grownBy w' (some a) := by
  have hb0 : Below w.heap.size w (w.alloc (.cells (([0, 1, 305419896, 4294967295, 4294967296, -1, 9223372036854775807] : List Int).map (Value.int .i64)).toArray 3)) := (Below.refl _ _).alloc (Nat.le_refl _) _
  have ha := hcur.lt
  go_enter Tryd.func40, Tryd.ntmps40
  go_wp2_with (fail)
  refine (l1PickInt_any a p n c xs w.heap.size 7 [0, 1, 305419896, 4294967295, 4294967296, -1, 9223372036854775807] _ (by omega) (by omega) rfl (lit_ints w [0, 1, 305419896, 4294967295, 4294967296, -1, 9223372036854775807] 3) (by omega) (hcur.below hb0 ha hcur.code_lt)).mono ?_
  rintro e w2 ⟨z, hz, rfl, hc2, g2⟩
  have gg : w.grownBy w2 (some a) := grown_trans (World.grownBy_alloc w _ _) g2
  clear hz hb0 g2
  go_wp2_with (fail)
  go_ret
  exact ⟨z, rfl, hc2, gg⟩

end Go.Proofs.YtepbidaoloplbaaDoor

namespace Go.Proofs.YtepbidaoloplbaaDoor.Alt
open Go.RowKit

theorem l2DrawNum_any (a : Nat) (p : Option Addr) (n c : Nat) (xs : List Int) (w : World) (hcur : Cur w a p n c xs) :
    Calls Altd.prog 40 #[.pointer (some ⟨a, 0, none⟩)] w fun e w' => ∃ z : Int, e = .returned (.int .i64 z) ∧ Cur w' a p n c xs ∧ w.grownBy w' (some a) := by
  have hb0 : Below w.heap.size w (w.alloc (.cells (([0, 1, 305419896, 4294967295, 4294967296, -1, 9223372036854775807] : List Int).map (Value.int .i64)).toArray 3)) := (Below.refl _ _).alloc (Nat.le_refl _) _
  have ha := hcur.lt
  go_enter Altd.func40, Altd.ntmps40
  go_wp2_with (fail)
  refine (l1PickInt_any a p n c xs w.heap.size 7 [0, 1, 305419896, 4294967295, 4294967296, -1, 9223372036854775807] _ (by omega) (by omega) rfl (lit_ints w [0, 1, 305419896, 4294967295, 4294967296, -1, 9223372036854775807] 3) (by omega) (hcur.below hb0 ha hcur.code_lt)).mono ?_
  rintro e w2 ⟨z, hz, rfl, hc2, g2⟩
  have gg : w.grownBy w2 (some a) := grown_trans (World.grownBy_alloc w _ _) g2
  clear hz hb0 g2
  go_wp2_with (fail)
  go_ret
  exact ⟨z, rfl, hc2, gg⟩

end Go.Proofs.YtepbidaoloplbaaDoor.Alt

namespace Go.Proofs.YtepbidaoloplbaaDoor
open Go.RowKit

theorem makeB (Z : Nat) (hZ : Z ≤ 4000) (W : World) : (Instr.makeSlice 22 (.int .i64 (Z : Int)) (.int .i64 (Z : Int))).run Tryd.prog W = .ok (.slice (some ⟨W.heap.size, 0, none⟩) Z Z) (W.alloc (.cells (madeCells #[.int .u8 0] Z) 5)) := by
  obtain ⟨i0, hi, hz0, hz1, hz2⟩ := info_parts infoByte
  have := run_makeSlice (P := Tryd.prog) W 22 5 i0 (.int .u8 0) Tryd.underlying22 hi hz0 .i64 .i64 Z Z (by omega) (by omega) (by rw [hz1]; simp; omega) (by rw [hz2]; omega) (by omega)
  simpa [hz1, Value.cells] using this
theorem madeB_own (W : World) (lo Z : Nat) (hlo : lo ≤ W.heap.size) (hZ : Z ≤ 4000) : (W.alloc (.cells (madeCells #[.int .u8 0] Z) 5)).ownsRow lo 5 1 (.slice (some ⟨W.heap.size, 0, none⟩) Z Z) Z ((List.replicate Z (0 : Int)).map (Value.int .u8)) := by
  have e : (madeCells #[Value.int .u8 0] Z).toList = (List.replicate Z (0 : Int)).map (Value.int .u8) := by rw [toList_madeCells_one]; simp
  have hs : (madeCells #[Value.int .u8 0] Z).size = Z := by rw [← Array.length_toList, e]; simp
  refine ⟨by simp, .inr ⟨W.heap.size, Z, _, rfl, hlo, heap_alloc_new W _, Nat.le_refl _, by unfold maxLen; omega, by rw [hs]; omega, ?_⟩⟩
  rw [e]
  simp
theorem nought_byte (Z : Nat) : ∀ y ∈ List.replicate Z (0 : Int), 0 ≤ y ∧ y < 256 := fun y hy => by rw [List.eq_of_mem_replicate hy]; omega
/-- The beginning of a row that is owned. -/
theorem Own.take {e : Nat} {w : World} {lo hi : Nat} {p : Option Addr} {n c k : Nat} {xs : List Int} (h : Own e w lo hi (.slice p n c) n xs) (hk : k ≤ n) : Own e w lo hi (.slice p k c) k (xs.take k) := by
  have hl := h.len
  refine ⟨⟨by simp; omega, ?_⟩, fun j hj => h.2 j (by cases p with | none => cases hj | some a => exact hj)⟩
  rcases h.1.2 with ⟨hv, h0⟩ | ⟨g, cap, cur, hv, hb, hg, hnc, hcm, hcs, ht⟩
  · simp only [Value.slice.injEq] at hv
    obtain ⟨rfl, _, rfl⟩ := hv
    obtain rfl : k = 0 := by omega
    exact .inl ⟨rfl, rfl⟩
  · simp only [Value.slice.injEq] at hv
    obtain ⟨rfl, _, rfl⟩ := hv
    refine .inr ⟨g, c, cur, rfl, hb, hg, by omega, hcm, hcs, ?_⟩
    rw [List.map_take, ← ht, List.take_take]
    congr 1
    omega
theorem slice_to (p : Option Addr) (m cc h : Nat) (hc : h ≤ cc) (hp : p = none → cc = 0) (W : World) : (Instr.slice 22 (.slice p m cc) none (some (.int .i64 (h : Int))) none).run Tryd.prog W = .ok (.slice p h cc) W := by
  have ht' : Tryd.prog.underlying 22 = some (.slice (Tryd.prog.elem 22)) := by simp [Program.elem, Tryd.underlying22]
  have he : Tryd.prog.elem 22 = 5 := by simp [Program.elem, Tryd.underlying22]
  obtain ⟨i0, hi, hz0, hz1, hz2⟩ := info_parts infoByte
  rw [run_slice_h W 22 _ _ _ ht' .i64 h (by omega) (by omega), he]
  cases p with
  | none => simp [sizeOf, typeInfo, hi, sliced]
  | some a => simp [sizeOf, typeInfo, hi, sliced, Addr.add]

end Go.Proofs.YtepbidaoloplbaaDoor

namespace Go.Proofs.YtepbidaoloplbaaDoor.Alt
open Go.RowKit

theorem makeB (Z : Nat) (hZ : Z ≤ 4000) (W : World) : (Instr.makeSlice 22 (.int .i64 (Z : Int)) (.int .i64 (Z : Int))).run Altd.prog W = .ok (.slice (some ⟨W.heap.size, 0, none⟩) Z Z) (W.alloc (.cells (madeCells #[.int .u8 0] Z) 5)) := by
  obtain ⟨i0, hi, hz0, hz1, hz2⟩ := info_parts infoByte
  have := run_makeSlice (P := Altd.prog) W 22 5 i0 (.int .u8 0) Altd.underlying22 hi hz0 .i64 .i64 Z Z (by omega) (by omega) (by rw [hz1]; simp; omega) (by rw [hz2]; omega) (by omega)
  simpa [hz1, Value.cells] using this
theorem slice_to (p : Option Addr) (m cc h : Nat) (hc : h ≤ cc) (hp : p = none → cc = 0) (W : World) : (Instr.slice 22 (.slice p m cc) none (some (.int .i64 (h : Int))) none).run Altd.prog W = .ok (.slice p h cc) W := by
  have ht' : Altd.prog.underlying 22 = some (.slice (Altd.prog.elem 22)) := by simp [-Altd.underlyingG, Program.elem, Altd.underlying22]
  have he : Altd.prog.elem 22 = 5 := by simp [-Altd.underlyingG, Program.elem, Altd.underlying22]
  obtain ⟨i0, hi, hz0, hz1, hz2⟩ := info_parts infoByte
  rw [run_slice_h W 22 _ _ _ ht' .i64 h (by omega) (by omega), he]
  cases p with
  | none => simp [-Altd.tables, sizeOf, typeInfo, hi, sliced]
  | some a => simp [-Altd.tables, sizeOf, typeInfo, hi, sliced, Addr.add]

end Go.Proofs.YtepbidaoloplbaaDoor.Alt

namespace Go.Proofs.YtepbidaoloplbaaDoor
open Go.RowKit
set_option maxRecDepth 100000

theorem results_five {fn : Func} {t u v x y : Tmp} (h : fn.results = #[.tmp t, .tmp u, .tmp v, .tmp x, .tmp y]) (tmps : Array Value) (P : Program) (w : World) :
    (results fn tmps).run P w = .ok (.tuple #[tmps.getD t undef, tmps.getD u undef, tmps.getD v undef, tmps.getD x undef, tmps.getD y undef]) w := by
  simp [results, h]

theorem l5DrawCount_any (a : Nat) (p : Option Addr) (n c : Nat) (xs : List Int) (w : World) (hcur : Cur w a p n c xs) :
    Calls Tryd.prog 25 #[.pointer (some ⟨a, 0, none⟩)] w fun e w' => ∃ z : Int, e = .returned (.int .i64 z) ∧ (-1 ≤ z ∧ z ≤ 4294967296) ∧ Cur w' a p n c xs ∧ w.grownBy w' (some a) := by
  have hb0 : Below w.heap.size w (w.alloc (.cells (([0, 1, 7, 4294967295, 4294967296, -1] : List Int).map (Value.int .i64)).toArray 3)) := (Below.refl _ _).alloc (Nat.le_refl _) _
  have ha := hcur.lt
  go_enter Tryd.func25, Tryd.ntmps25
  go_wp2_with (fail)
  refine (l1PickInt_any a p n c xs w.heap.size 6 [0, 1, 7, 4294967295, 4294967296, -1] _ (by omega) (by omega) rfl (lit_ints w [0, 1, 7, 4294967295, 4294967296, -1] 3) (by omega) (hcur.below hb0 ha hcur.code_lt)).mono ?_
  rintro e w2 ⟨z, hz, rfl, hc2, g2⟩
  have gg : w.grownBy w2 (some a) := grown_trans (World.grownBy_alloc w _ _) g2
  have lz : -1 ≤ z ∧ z ≤ 4294967296 := by
    simp only [List.mem_cons, List.not_mem_nil, or_false] at hz
    omega
  clear hz hb0 g2
  go_wp2_with (fail)
  go_ret
  exact ⟨z, rfl, lz, hc2, gg⟩

set_option maxHeartbeats 2000000 in
theorem dBlock (p : Option Addr) (n c : Nat) (xs : List Int) (w : World) (hn : n ≤ 1048576) (hx : xs.length = n) (hb : BytesIn w p n xs) (hr : ∀ x ∈ xs, 0 ≤ x ∧ x < 256) :
    Calls Tryd.prog 9 #[.slice p n c] w fun e w' => ∃ g1 k1 c1 ys z g2 k2 c2 zs, e = .returned (.tuple #[.slice (some ⟨g1, 0, none⟩) k1 c1, .int .i64 z, .slice (some ⟨g2, 0, none⟩) k2 c2]) ∧ (k1 ≤ 1000 ∧ k2 ≤ 1000 ∧ (-1 ≤ z ∧ z ≤ 4294967296) ∧ (∀ y ∈ ys, 0 ≤ y ∧ y < 256) ∧ ∀ y ∈ zs, 0 ≤ y ∧ y < 256) ∧ Own 5 w' w.heap.size w'.heap.size (.slice (some ⟨g1, 0, none⟩) k1 c1) k1 ys ∧ Own 5 w' w.heap.size w'.heap.size (.slice (some ⟨g2, 0, none⟩) k2 c2) k2 zs ∧ Below w.heap.size w w' := by
  go_enter Tryd.func9, Tryd.ntmps9
  go_wp2_with (fail)
  refine (l1New_any p n c xs _ hn hx hb hr).mono ?_
  rintro e w1 ⟨a, rfl, ha, ha1, hc1, b1⟩
  have CN := l1DrawNear_any a p n c xs 32 w1 (by omega) (by omega) hc1
  go_wp2_with (fail)
  refine CN.mono ?_
  rintro e w2 ⟨g, k, ck, ys, rfl, hk, o2, hys, hc2, g2⟩
  have bel2 := below_cur b1 g2 ha
  clear CN
  go_wp2_with (fail)
  refine (l5DrawCount_any a p n c xs _ hc2).mono ?_
  rintro e w3 ⟨z, rfl, hz, hc3, g3⟩
  have o3 := o2.cur g3 ha1
  have bel3 := below_cur bel2 g3 ha
  have CM := l1DrawNear_any a p n c xs 12 w3 (by omega) (by omega) hc3
  go_wp2_with (fail)
  refine CM.mono ?_
  rintro e w4 ⟨g4, k4, c4, zs, rfl, hk4, o4, hzs, hc4, gg4⟩
  have o3' := o3.cur gg4 ha1
  have bel4 := below_cur bel3 gg4 ha
  clear CM
  go_wp2_with (fail)
  go_ret3
  exact ⟨_, _, _, ys, z, _, _, _, zs, rfl, ⟨hk, hk4, hz, hys, hzs⟩, .of (owns_mono o3'.1 b1.size), .of (owns_mono o4.1 bel3.size), bel4⟩

set_option maxHeartbeats 8000000 in
theorem dQuarter (p : Option Addr) (n c : Nat) (xs : List Int) (w : World) (hn : n ≤ 1048576) (hx : xs.length = n) (hb : BytesIn w p n xs) (hr : ∀ x ∈ xs, 0 ≤ x ∧ x < 256) :
    Calls Tryd.prog 15 #[.slice p n c] w fun e w' => ∃ g k c' ys qa qb qc qd, e = .returned (.tuple #[.slice (some ⟨g, 0, none⟩) k c', .int .i64 qa, .int .i64 qb, .int .i64 qc, .int .i64 qd]) ∧ k ≤ 16 ∧ OwnI 3 w' w.heap.size w'.heap.size (.slice (some ⟨g, 0, none⟩) k c') k ys ∧ Below w.heap.size w w' := by
  obtain ⟨i0, hi, hz0, hz1, hz2⟩ := info_parts infoInt
  go_enter Tryd.func15, Tryd.ntmps15
  go_wp2_with (fail)
  refine (l1New_any p n c xs _ hn hx hb hr).mono ?_
  rintro e w1 ⟨a, rfl, ha, ha1, hc1, b1⟩
  have z1 := b1.size
  have hcl := hc1.code_lt
  have hb0 : Below w1.heap.size w1 (w1.alloc (.cells #[] 3)) := (Below.refl _ _).alloc (Nat.le_refl _) _
  have o1 : (w1.alloc (.cells #[] 3)).ownsRow w1.heap.size 3 1 (.slice (some ⟨w1.heap.size, 0, none⟩) 0 0) 0 (([] : List Int).map (Value.int .i64)) := World.ownsRow_made w1 #[] 0 (Nat.le_refl _) (by unfold maxLen; omega) rfl
  have hc0 := hc1.below hb0 ha1 hcl
  have g0 : w1.grownBy (w1.alloc (.cells #[] 3)) (some a) := World.grownBy_alloc w1 _ _
  clear hb0 hc1 hb hr hx
  go_wp2_with (fail)
  go_loopw [8, 9] (fun v i wr => ∃ (k : Nat) (ys : List Int), k ≤ 16 ∧ i = .int .i64 k ∧ Hid (∃ g cap, v = .slice (some ⟨g, 0, none⟩) k cap) ∧ wr.ownsRow w1.heap.size 3 1 v k (ys.map (Value.int .i64)) ∧ Cur wr a p n c xs ∧ w1.grownBy wr (some a))
    (fun _ i _ => 17 - (intOf i).toNat)
  case atStart => exact ⟨0, [], Nat.zero_le _, rfl, ⟨_, _, rfl⟩, o1, hc0, g0⟩
  case round =>
    clear o1 g0 hc0
    obtain ⟨k, ys, hk, rfl, hform, hown, hc, hgr⟩ := hrel
    have hsz := hgr.size
    go_wp2_with (fail)
    refine (l1Below_any a p n c xs 20 _ (by omega) (by omega) hc).mono ?_
    rintro e w2 ⟨x, rfl, hx0, hx1, hc2, g2⟩
    have o2 := owns_cur hown g2 ha1
    have gg := grown_trans hgr g2
    have hsz2 := gg.size
    clear hown hc hgr
    obtain ⟨q, hq⟩ : ∃ q : Int, x / 19 = q := ⟨_, rfl⟩
    have lq : 0 ≤ q ∧ q ≤ 1 := by omega
    obtain ⟨d, hd⟩ : ∃ d : Int, 16 - q = d := ⟨_, rfl⟩
    have ld : 15 ≤ d ∧ d ≤ 16 := by omega
    by_cases hlt : (k : Int) < d
    · go_wp2_with (fail)
      refine (l2DrawNum_any a p n c xs _ hc2).mono ?_
      rintro e w3 ⟨z, rfl, hc3, g3⟩
      have o3 := owns_cur o2 g3 ha1
      have gg3 := grown_trans gg g3
      have hsz3 := gg3.size
      clear o2 gg hc2 g2 g3 hform
      go_wp2_with (at_builtin; refine list_pushKI hi hz0 hz1 hz2 (.tmp 23) (.tmp 26) 32 Tryd.underlying32 _ o3 (by omega) hsz3 (by rfl) (by rfl) (by rfl) (by rfl) ?_; intro g cap w4 ho4 hb4 hkk)
      go_roundw
      case rel => exact ⟨k + 1, ys ++ [z], by omega, by go_num, ⟨_, _, rfl⟩, ho4, hc3.below hb4 ha1 hcl, grown_below gg3 hb4⟩
      case measure => simp [intOf]; omega
    · obtain ⟨g, c', hv⟩ := hform.out
      clear hform
      subst hv
      go_wp2_with (fail)
      refine (l1Below_any a p n c xs 18 _ (by omega) (by omega) hc2).mono ?_
      rintro e w3 ⟨x1, rfl, hx10, hx11, hc3, g3⟩
      have o3 := owns_cur o2 g3 ha1
      have gg3 := grown_trans gg g3
      clear o2 gg g2 g3 hc2
      go_wp2_with (fail)
      refine (l1Below_any a p n c xs 16 _ (by omega) (by omega) hc3).mono ?_
      rintro e w4 ⟨x2, rfl, hx20, hx21, hc4, g4⟩
      have o4 := owns_cur o3 g4 ha1
      have gg4 := grown_trans gg3 g4
      clear o3 gg3 g4 hc3
      go_wp2_with (fail)
      refine (l1Below_any a p n c xs 8 _ (by omega) (by omega) hc4).mono ?_
      rintro e w5 ⟨x3, rfl, hx30, hx31, hc5, g5⟩
      have o5 := owns_cur o4 g5 ha1
      have gg5 := grown_trans gg4 g5
      clear o4 gg4 g5 hc4
      go_wp2_with (fail)
      refine (l1Below_any a p n c xs 7 _ (by omega) (by omega) hc5).mono ?_
      rintro e w6 ⟨x4, rfl, hx40, hx41, hc6, g6⟩
      have o6 := owns_cur o5 g6 ha1
      have gg6 := grown_trans gg5 g6
      clear o5 gg5 g6 hc5
      go_wp2_with (fail)
      (try simp only [Exit.inBlock, Exit.then])
      refine bodyPost_ret (results_five rfl _ _ _) rfl ?_
      exact ⟨g, k, c', ys, _, _, _, _, rfl, hk, .of (owns_mono o6 z1), below_cur b1 gg6 ha⟩

end Go.Proofs.YtepbidaoloplbaaDoor

namespace Go.Proofs.YtepbidaoloplbaaDoor.Alt
open Go.RowKit
set_option maxRecDepth 100000

theorem l5DrawCount_any (a : Nat) (p : Option Addr) (n c : Nat) (xs : List Int) (w : World) (hcur : Cur w a p n c xs) :
    Calls Altd.prog 25 #[.pointer (some ⟨a, 0, none⟩)] w fun e w' => ∃ z : Int, e = .returned (.int .i64 z) ∧ (-1 ≤ z ∧ z ≤ 4294967296) ∧ Cur w' a p n c xs ∧ w.grownBy w' (some a) := by
  have hb0 : Below w.heap.size w (w.alloc (.cells (([0, 1, 7, 4294967295, 4294967296, -1] : List Int).map (Value.int .i64)).toArray 3)) := (Below.refl _ _).alloc (Nat.le_refl _) _
  have ha := hcur.lt
  go_enter Altd.func25, Altd.ntmps25
  go_wp2_with (fail)
  refine (l1PickInt_any a p n c xs w.heap.size 6 [0, 1, 7, 4294967295, 4294967296, -1] _ (by omega) (by omega) rfl (lit_ints w [0, 1, 7, 4294967295, 4294967296, -1] 3) (by omega) (hcur.below hb0 ha hcur.code_lt)).mono ?_
  rintro e w2 ⟨z, hz, rfl, hc2, g2⟩
  have gg : w.grownBy w2 (some a) := grown_trans (World.grownBy_alloc w _ _) g2
  have lz : -1 ≤ z ∧ z ≤ 4294967296 := by
    simp only [List.mem_cons, List.not_mem_nil, or_false] at hz
    omega
  clear hz hb0 g2
  go_wp2_with (fail)
  go_ret
  exact ⟨z, rfl, lz, hc2, gg⟩

set_option maxHeartbeats 2000000 in
theorem dBlock (p : Option Addr) (n c : Nat) (xs : List Int) (w : World) (hn : n ≤ 1048576) (hx : xs.length = n) (hb : BytesIn w p n xs) (hr : ∀ x ∈ xs, 0 ≤ x ∧ x < 256) :
    Calls Altd.prog 9 #[.slice p n c] w fun e w' => ∃ g1 k1 c1 ys z g2 k2 c2 zs, e = .returned (.tuple #[.slice (some ⟨g1, 0, none⟩) k1 c1, .int .i64 z, .slice (some ⟨g2, 0, none⟩) k2 c2]) ∧ (k1 ≤ 1000 ∧ k2 ≤ 1000 ∧ (-1 ≤ z ∧ z ≤ 4294967296) ∧ (∀ y ∈ ys, 0 ≤ y ∧ y < 256) ∧ ∀ y ∈ zs, 0 ≤ y ∧ y < 256) ∧ Own 5 w' w.heap.size w'.heap.size (.slice (some ⟨g1, 0, none⟩) k1 c1) k1 ys ∧ Own 5 w' w.heap.size w'.heap.size (.slice (some ⟨g2, 0, none⟩) k2 c2) k2 zs ∧ Below w.heap.size w w' := by
  go_enter Altd.func9, Altd.ntmps9
  go_wp2_with (fail)
  refine (l1New_any p n c xs _ hn hx hb hr).mono ?_
  rintro e w1 ⟨a, rfl, ha, ha1, hc1, b1⟩
  have CN := l1DrawNear_any a p n c xs 32 w1 (by omega) (by omega) hc1
  go_wp2_with (fail)
  refine CN.mono ?_
  rintro e w2 ⟨g, k, ck, ys, rfl, hk, o2, hys, hc2, g2⟩
  have bel2 := below_cur b1 g2 ha
  clear CN
  go_wp2_with (fail)
  refine (l5DrawCount_any a p n c xs _ hc2).mono ?_
  rintro e w3 ⟨z, rfl, hz, hc3, g3⟩
  have o3 := o2.cur g3 ha1
  have bel3 := below_cur bel2 g3 ha
  have CM := l1DrawNear_any a p n c xs 12 w3 (by omega) (by omega) hc3
  go_wp2_with (fail)
  refine CM.mono ?_
  rintro e w4 ⟨g4, k4, c4, zs, rfl, hk4, o4, hzs, hc4, gg4⟩
  have o3' := o3.cur gg4 ha1
  have bel4 := below_cur bel3 gg4 ha
  clear CM
  go_wp2_with (fail)
  go_ret3
  exact ⟨_, _, _, ys, z, _, _, _, zs, rfl, ⟨hk, hk4, hz, hys, hzs⟩, .of (owns_mono o3'.1 b1.size), .of (owns_mono o4.1 bel3.size), bel4⟩

set_option maxHeartbeats 8000000 in
theorem dQuarter (p : Option Addr) (n c : Nat) (xs : List Int) (w : World) (hn : n ≤ 1048576) (hx : xs.length = n) (hb : BytesIn w p n xs) (hr : ∀ x ∈ xs, 0 ≤ x ∧ x < 256) :
    Calls Altd.prog 15 #[.slice p n c] w fun e w' => ∃ g k c' ys qa qb qc qd, e = .returned (.tuple #[.slice (some ⟨g, 0, none⟩) k c', .int .i64 qa, .int .i64 qb, .int .i64 qc, .int .i64 qd]) ∧ k ≤ 16 ∧ OwnI 3 w' w.heap.size w'.heap.size (.slice (some ⟨g, 0, none⟩) k c') k ys ∧ Below w.heap.size w w' := by
  obtain ⟨i0, hi, hz0, hz1, hz2⟩ := info_parts infoInt
  go_enter Altd.func15, Altd.ntmps15
  go_wp2_with (fail)
  refine (l1New_any p n c xs _ hn hx hb hr).mono ?_
  rintro e w1 ⟨a, rfl, ha, ha1, hc1, b1⟩
  have z1 := b1.size
  have hcl := hc1.code_lt
  have hb0 : Below w1.heap.size w1 (w1.alloc (.cells #[] 3)) := (Below.refl _ _).alloc (Nat.le_refl _) _
  have o1 : (w1.alloc (.cells #[] 3)).ownsRow w1.heap.size 3 1 (.slice (some ⟨w1.heap.size, 0, none⟩) 0 0) 0 (([] : List Int).map (Value.int .i64)) := World.ownsRow_made w1 #[] 0 (Nat.le_refl _) (by unfold maxLen; omega) rfl
  have hc0 := hc1.below hb0 ha1 hcl
  have g0 : w1.grownBy (w1.alloc (.cells #[] 3)) (some a) := World.grownBy_alloc w1 _ _
  clear hb0 hc1 hb hr hx
  go_wp2_with (fail)
  go_loopw [8, 9] (fun v i wr => ∃ (k : Nat) (ys : List Int), k ≤ 16 ∧ i = .int .i64 k ∧ Hid (∃ g cap, v = .slice (some ⟨g, 0, none⟩) k cap) ∧ wr.ownsRow w1.heap.size 3 1 v k (ys.map (Value.int .i64)) ∧ Cur wr a p n c xs ∧ w1.grownBy wr (some a))
    (fun _ i _ => 17 - (intOf i).toNat)
  case atStart => exact ⟨0, [], Nat.zero_le _, rfl, ⟨_, _, rfl⟩, o1, hc0, g0⟩
  case round =>
    clear o1 g0 hc0
    obtain ⟨k, ys, hk, rfl, hform, hown, hc, hgr⟩ := hrel
    have hsz := hgr.size
    go_wp2_with (fail)
    refine (l1Below_any a p n c xs 20 _ (by omega) (by omega) hc).mono ?_
    rintro e w2 ⟨x, rfl, hx0, hx1, hc2, g2⟩
    have o2 := owns_cur hown g2 ha1
    have gg := grown_trans hgr g2
    have hsz2 := gg.size
    clear hown hc hgr
    obtain ⟨q, hq⟩ : ∃ q : Int, x / 19 = q := ⟨_, rfl⟩
    have lq : 0 ≤ q ∧ q ≤ 1 := by omega
    obtain ⟨d, hd⟩ : ∃ d : Int, 16 - q = d := ⟨_, rfl⟩
    have ld : 15 ≤ d ∧ d ≤ 16 := by omega
    by_cases hlt : (k : Int) < d
    · go_wp2_with (fail)
      refine (l2DrawNum_any a p n c xs _ hc2).mono ?_
      rintro e w3 ⟨z, rfl, hc3, g3⟩
      have o3 := owns_cur o2 g3 ha1
      have gg3 := grown_trans gg g3
      have hsz3 := gg3.size
      clear o2 gg hc2 g2 g3 hform
      go_wp2_with (at_builtin; refine list_pushKI hi hz0 hz1 hz2 (.tmp 23) (.tmp 26) 32 Altd.underlying32 _ o3 (by omega) hsz3 (by rfl) (by rfl) (by rfl) (by rfl) ?_; intro g cap w4 ho4 hb4 hkk)
      go_roundw
      case rel => exact ⟨k + 1, ys ++ [z], by omega, by go_num, ⟨_, _, rfl⟩, ho4, hc3.below hb4 ha1 hcl, grown_below gg3 hb4⟩
      case measure => simp [intOf]; omega
    · obtain ⟨g, c', hv⟩ := hform.out
      clear hform
      subst hv
      go_wp2_with (fail)
      refine (l1Below_any a p n c xs 18 _ (by omega) (by omega) hc2).mono ?_
      rintro e w3 ⟨x1, rfl, hx10, hx11, hc3, g3⟩
      have o3 := owns_cur o2 g3 ha1
      have gg3 := grown_trans gg g3
      clear o2 gg g2 g3 hc2
      go_wp2_with (fail)
      refine (l1Below_any a p n c xs 16 _ (by omega) (by omega) hc3).mono ?_
      rintro e w4 ⟨x2, rfl, hx20, hx21, hc4, g4⟩
      have o4 := owns_cur o3 g4 ha1
      have gg4 := grown_trans gg3 g4
      clear o3 gg3 g4 hc3
      go_wp2_with (fail)
      refine (l1Below_any a p n c xs 8 _ (by omega) (by omega) hc4).mono ?_
      rintro e w5 ⟨x3, rfl, hx30, hx31, hc5, g5⟩
      have o5 := owns_cur o4 g5 ha1
      have gg5 := grown_trans gg4 g5
      clear o4 gg4 g5 hc4
      go_wp2_with (fail)
      refine (l1Below_any a p n c xs 7 _ (by omega) (by omega) hc5).mono ?_
      rintro e w6 ⟨x4, rfl, hx40, hx41, hc6, g6⟩
      have o6 := owns_cur o5 g6 ha1
      have gg6 := grown_trans gg5 g6
      clear o5 gg5 g6 hc5
      go_wp2_with (fail)
      (try simp only [Exit.inBlock, Exit.then])
      refine bodyPost_ret (results_five rfl _ _ _) rfl ?_
      exact ⟨g, k, c', ys, _, _, _, _, rfl, hk, .of (owns_mono o6 z1), below_cur b1 gg6 ha⟩

end Go.Proofs.YtepbidaoloplbaaDoor.Alt

namespace Go.Proofs.YtepbidaoloplbaaDoor
open Go.RowKit

theorem implSame_any (p q : Option Addr) (n m c d : Nat) (xs ys : List Int) (w : World) (hx : xs.length = n) (hy : ys.length = m) (h : BytesIn w p n xs) (h' : BytesIn w q m ys) :
    Calls Tryd.prog 11 #[.slice p n c, .slice q m d] w fun e w' => e = .returned (.bool ((strOfNums xs).toList == (strOfNums ys).toList)) ∧ Below w.heap.size w w' := by
  have g := text_of (P := Tryd.prog) h hx c 22 5 9 Tryd.underlying22 Tryd.underlying5 Tryd.underlying9
  have g' := text_of (P := Tryd.prog) h' hy d 22 5 9 Tryd.underlying22 Tryd.underlying5 Tryd.underlying9
  go_enter Tryd.func11, Tryd.ntmps11
  go_wp2
  go_ret
  exact ⟨rfl, Below.refl _ _⟩

end Go.Proofs.YtepbidaoloplbaaDoor

namespace Go.Proofs.YtepbidaoloplbaaDoor.Alt
open Go.RowKit

theorem implSame_any (p q : Option Addr) (n m c d : Nat) (xs ys : List Int) (w : World) (hx : xs.length = n) (hy : ys.length = m) (h : BytesIn w p n xs) (h' : BytesIn w q m ys) :
    Calls Altd.prog 11 #[.slice p n c, .slice q m d] w fun e w' => e = .returned (.bool ((strOfNums xs).toList == (strOfNums ys).toList)) ∧ Below w.heap.size w w' := by
  have g := text_of (P := Altd.prog) h hx c 22 5 9 Altd.underlying22 Altd.underlying5 Altd.underlying9
  have g' := text_of (P := Altd.prog) h' hy d 22 5 9 Altd.underlying22 Altd.underlying5 Altd.underlying9
  go_enter Altd.func11, Altd.ntmps11
  go_wp2
  go_ret
  exact ⟨rfl, Below.refl _ _⟩

end Go.Proofs.YtepbidaoloplbaaDoor.Alt

namespace Go.Proofs.YtepbidaoloplbaaDoor
open Go.RowKit

theorem big_small (p : Option Addr) (n c : Nat) (w : World) (hn : n ≤ 1048576) : Calls Tryd.prog 6 #[.slice p n c] w fun e w' => e = .returned (.bool false) ∧ Below w.heap.size w w' := by
  have hd : decide ((1048576 : Int) < (n : Int)) = false := by simp; omega
  go_enter Tryd.func6, Tryd.ntmps6
  go_wp2
  go_ret
  refine ⟨?_, Below.refl _ _⟩
  first | rfl | (congr 2)

theorem big_great (p : Option Addr) (n c : Nat) (w : World) (hn : ¬ n ≤ 1048576) : Calls Tryd.prog 6 #[.slice p n c] w fun e w' => e = .returned (.bool true) ∧ Below w.heap.size w w' := by
  have hd : (1048576 : Int) < (n : Int) := by omega
  go_enter Tryd.func6, Tryd.ntmps6
  go_wp2
  go_ret
  exact ⟨by simp, Below.refl _ _⟩

theorem in_prefix {w : World} {p : Option Addr} {n m : Nat} {xs : List Int} (h : BytesIn w p n xs) (hm : m ≤ n) : BytesIn w p m (xs.take m) := by
  intro h0
  obtain ⟨b, o, rfl, hc⟩ := h (by omega)
  refine ⟨b, o, rfl, fun i hi => ?_⟩
  rw [hc i (by omega)]
  simp [hi]

end Go.Proofs.YtepbidaoloplbaaDoor

namespace Go.Proofs.YtepbidaoloplbaaDoor.Alt
open Go.RowKit

theorem big_small (p : Option Addr) (n c : Nat) (w : World) (hn : n ≤ 1048576) : Calls Altd.prog 6 #[.slice p n c] w fun e w' => e = .returned (.bool false) ∧ Below w.heap.size w w' := by
  have hd : decide ((1048576 : Int) < (n : Int)) = false := by simp; omega
  go_enter Altd.func6, Altd.ntmps6
  go_wp2
  go_ret
  refine ⟨?_, Below.refl _ _⟩
  first | rfl | (congr 2)

theorem big_great (p : Option Addr) (n c : Nat) (w : World) (hn : ¬ n ≤ 1048576) : Calls Altd.prog 6 #[.slice p n c] w fun e w' => e = .returned (.bool true) ∧ Below w.heap.size w w' := by
  have hd : (1048576 : Int) < (n : Int) := by omega
  go_enter Altd.func6, Altd.ntmps6
  go_wp2
  go_ret
  exact ⟨by simp, Below.refl _ _⟩

end Go.Proofs.YtepbidaoloplbaaDoor.Alt

namespace Go.Proofs.YtepbidaoloplbaaDoor
open Go.RowKit

end Go.Proofs.YtepbidaoloplbaaDoor

namespace Go.Proofs.YtepbidaoloplbaaDoor.Alt
open Go.RowKit

end Go.Proofs.YtepbidaoloplbaaDoor.Alt

namespace Go.Proofs.YtepbidaoloplbaaDoor
open Go.RowKit

/-- sameInts: are the two lists one? -/
theorem smI_len (p q : Option Addr) (n m c d : Nat) (w : World) (hne : n ≠ m) :
    Calls Tryd.prog 16 #[.slice p n c, .slice q m d] w fun e w' => e = .returned (.bool false) ∧ Below w.heap.size w w' := by
  have hd : ((n : Int) != (m : Int)) = true := by simp; omega
  go_enter Tryd.func16, Tryd.ntmps16
  go_wp2
  go_ret
  exact ⟨rfl, Below.refl _ _⟩

set_option maxHeartbeats 1000000 in
theorem smI_same (p q : Option Addr) (n c d : Nat) (xs ys : List Int) (w : World) (hn : n ≤ 9223372036854775807) (hx : xs.length = n) (hy : ys.length = n) (h : IntsIn w p n xs) (h' : IntsIn w q n ys) :
    Calls Tryd.prog 16 #[.slice p n c, .slice q n d] w fun e w' => e = .returned (.bool (decide (xs = ys))) ∧ Below w.heap.size w w' := by
  have hd : ((n : Int) != (n : Int)) = false := by simp
  go_enter Tryd.func16, Tryd.ntmps16
  go_wp2
  go_loopw [5] (fun i wr => ∃ k : Nat, k ≤ n ∧ i = .int .i64 k ∧ Hid (xs.take k = ys.take k) ∧ ∃ m, wr = w.drewN m) (fun i _ => n - (intOf i).toNat)
  case atStart => exact ⟨0, Nat.zero_le _, rfl, by simp [Hid], 0, rfl⟩
  case round =>
    obtain ⟨k, hk, rfl, hsame, m, rfl⟩ := hrel
    by_cases hlt : k < n
    · obtain ⟨b, o, rfl, hc⟩ := h (by omega)
      obtain ⟨b', o', rfl, hc'⟩ := h' (by omega)
      have h1 := hc k hlt
      have h2 := hc' k hlt
      obtain ⟨u, hu⟩ : ∃ u, u = xs.getD k 0 := ⟨_, rfl⟩
      obtain ⟨v, hv⟩ : ∃ v, v = ys.getD k 0 := ⟨_, rfl⟩
      rw [← hu] at h1
      rw [← hv] at h2
      clear hc hc' h h'
      by_cases huv : u = v
      · subst huv
        have hd2 : (u != u) = false := by simp
        have hmore : Hid (xs.take (k + 1) = ys.take (k + 1)) := take_more hx hy hlt hsame (by rw [← hu, ← hv])
        clear hu hv hsame
        go_wp2
        go_quiet (fail)
        go_wp2
        go_roundw
        case rel => exact ⟨k + 1, by omega, by go_num, hmore, _, rfl⟩
        case measure => simp [intOf]; omega
      · have hd2 : (u != v) = true := by simpa using huv
        have hne : Hid (decide (xs = ys) = false) := by have := take_less (k := k) (xs := xs) (ys := ys) (by rw [← hu, ← hv]; exact huv); simpa [Hid] using this
        clear hu hv hsame huv
        go_wp2
        go_quiet (fail)
        go_wp2
        go_ret
        rw [hne.out, World.drewN_drewN]
        exact ⟨rfl, below_drewN (Below.refl _ _) _⟩
    · have hkn : k = n := by omega
      subst hkn
      have hall : Hid (decide (xs = ys) = true) := by simpa [Hid] using take_all hx hy hsame
      clear hsame
      go_wp2
      go_ret
      rw [hall.out]
      exact ⟨rfl, below_drewN (Below.refl _ _) _⟩

theorem sameInts_any (p q : Option Addr) (n m c d : Nat) (xs ys : List Int) (w : World) (hn : n ≤ 9223372036854775807) (hx : xs.length = n) (hy : ys.length = m) (h : IntsIn w p n xs) (h' : IntsIn w q m ys) :
    Calls Tryd.prog 16 #[.slice p n c, .slice q m d] w fun e w' => e = .returned (.bool (decide (xs = ys))) ∧ Below w.heap.size w w' := by
  by_cases hnm : n = m
  · subst hnm
    exact smI_same p q n c d xs ys w hn hx hy h h'
  · have : decide (xs = ys) = false := by
      simp only [decide_eq_false_iff_not]
      intro e
      subst e
      omega
    rw [this]
    exact smI_len p q n m c d w hnm

/-- What words answers. -/
def modL (xs : List Int) : List Int := xs.map fun x => x % 4294967296

end Go.Proofs.YtepbidaoloplbaaDoor

namespace Go.Proofs.YtepbidaoloplbaaDoor.Alt
open Go.RowKit

/-- sameInts: are the two lists one? -/
theorem smI_len (p q : Option Addr) (n m c d : Nat) (w : World) (hne : n ≠ m) :
    Calls Altd.prog 16 #[.slice p n c, .slice q m d] w fun e w' => e = .returned (.bool false) ∧ Below w.heap.size w w' := by
  have hd : ((n : Int) != (m : Int)) = true := by simp; omega
  go_enter Altd.func16, Altd.ntmps16
  go_wp2
  go_ret
  exact ⟨rfl, Below.refl _ _⟩

set_option maxHeartbeats 1000000 in
theorem smI_same (p q : Option Addr) (n c d : Nat) (xs ys : List Int) (w : World) (hn : n ≤ 9223372036854775807) (hx : xs.length = n) (hy : ys.length = n) (h : IntsIn w p n xs) (h' : IntsIn w q n ys) :
    Calls Altd.prog 16 #[.slice p n c, .slice q n d] w fun e w' => e = .returned (.bool (decide (xs = ys))) ∧ Below w.heap.size w w' := by
  have hd : ((n : Int) != (n : Int)) = false := by simp
  go_enter Altd.func16, Altd.ntmps16
  go_wp2
  go_loopw [5] (fun i wr => ∃ k : Nat, k ≤ n ∧ i = .int .i64 k ∧ Hid (xs.take k = ys.take k) ∧ ∃ m, wr = w.drewN m) (fun i _ => n - (intOf i).toNat)
  case atStart => exact ⟨0, Nat.zero_le _, rfl, by simp [Hid], 0, rfl⟩
  case round =>
    obtain ⟨k, hk, rfl, hsame, m, rfl⟩ := hrel
    by_cases hlt : k < n
    · obtain ⟨b, o, rfl, hc⟩ := h (by omega)
      obtain ⟨b', o', rfl, hc'⟩ := h' (by omega)
      have h1 := hc k hlt
      have h2 := hc' k hlt
      obtain ⟨u, hu⟩ : ∃ u, u = xs.getD k 0 := ⟨_, rfl⟩
      obtain ⟨v, hv⟩ : ∃ v, v = ys.getD k 0 := ⟨_, rfl⟩
      rw [← hu] at h1
      rw [← hv] at h2
      clear hc hc' h h'
      by_cases huv : u = v
      · subst huv
        have hd2 : (u != u) = false := by simp
        have hmore : Hid (xs.take (k + 1) = ys.take (k + 1)) := take_more hx hy hlt hsame (by rw [← hu, ← hv])
        clear hu hv hsame
        go_wp2
        go_quiet (fail)
        go_wp2
        go_roundw
        case rel => exact ⟨k + 1, by omega, by go_num, hmore, _, rfl⟩
        case measure => simp [intOf]; omega
      · have hd2 : (u != v) = true := by simpa using huv
        have hne : Hid (decide (xs = ys) = false) := by have := take_less (k := k) (xs := xs) (ys := ys) (by rw [← hu, ← hv]; exact huv); simpa [Hid] using this
        clear hu hv hsame huv
        go_wp2
        go_quiet (fail)
        go_wp2
        go_ret
        rw [hne.out, World.drewN_drewN]
        exact ⟨rfl, below_drewN (Below.refl _ _) _⟩
    · have hkn : k = n := by omega
      subst hkn
      have hall : Hid (decide (xs = ys) = true) := by simpa [Hid] using take_all hx hy hsame
      clear hsame
      go_wp2
      go_ret
      rw [hall.out]
      exact ⟨rfl, below_drewN (Below.refl _ _) _⟩

theorem sameInts_any (p q : Option Addr) (n m c d : Nat) (xs ys : List Int) (w : World) (hn : n ≤ 9223372036854775807) (hx : xs.length = n) (hy : ys.length = m) (h : IntsIn w p n xs) (h' : IntsIn w q m ys) :
    Calls Altd.prog 16 #[.slice p n c, .slice q m d] w fun e w' => e = .returned (.bool (decide (xs = ys))) ∧ Below w.heap.size w w' := by
  by_cases hnm : n = m
  · subst hnm
    exact smI_same p q n c d xs ys w hn hx hy h h'
  · have : decide (xs = ys) = false := by
      simp only [decide_eq_false_iff_not]
      intro e
      subst e
      omega
    rw [this]
    exact smI_len p q n m c d w hnm

end Go.Proofs.YtepbidaoloplbaaDoor.Alt
