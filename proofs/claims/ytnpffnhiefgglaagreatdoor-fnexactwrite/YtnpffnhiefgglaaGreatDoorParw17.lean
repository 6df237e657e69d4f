/-
  A part of the proof.
-/
import Derived.Test.YtnpffnhiefgglaaGreatDoorParw14
import Derived.Test.YtnpffnhiefgglaaGreatDoorParw16
import Derived.Test.YtnpffnhiefgglaaGreatDoorParw15
import Derived.Conc.WalkWords
import Derived.Deep.MidRow
import Derived.Deep.WholeRow
namespace Go.Proofs.YtnpffnhiefgglaaGreatDoor
open Go.RowKit
set_option maxRecDepth 100000
def fourL (great : Bool) (n : Int) : List Int := if great = true then (littleL (n % 4294967296) 4).reverse else littleL (n % 4294967296) 4
theorem fourL_length (great : Bool) (n : Int) : (fourL great n).length = 4 := by unfold fourL; split <;> simp [littleL_length]
def bytesL (great : Bool) (xs : List Int) : List Int := xs.flatMap (fourL great)
theorem bytesL_length (great : Bool) (xs : List Int) : (bytesL great xs).length = 4 * xs.length := by
  induction xs with
  | nil => rfl
  | cons x xs ih => simp only [bytesL, List.flatMap_cons, List.length_append, fourL_length, List.length_cons] at ih ⊢; omega
theorem bytesL_step (great : Bool) (xs : List Int) (k : Nat) (hk : k < xs.length) : bytesL great (xs.take k) ++ fourL great (xs.getD k 0) = bytesL great (xs.take (k + 1)) := by
  rw [List.take_succ_eq_append_getElem hk]
  simp only [bytesL, List.flatMap_append, List.flatMap_cons, List.flatMap_nil, List.append_nil, List.getD_eq_getElem?_getD, List.getElem?_eq_getElem hk, Option.getD_some]
theorem implLittle4 (n : Int) (w : World) :
    Calls Tryz.prog 84 #[.int .i64 (n % 4294967296), .int .i64 4] w fun e w' => ∃ p c, e = .returned (.slice p 4 c) ∧ Own 5 w' w.heap.size w'.heap.size (.slice p 4 c) 4 (fourL false n) ∧ Below w.heap.size w w' :=
  implLittle_yes (n % 4294967296) 4 w (by omega) (by omega) (by omega) (by omega)
theorem specLittle4 (n : Int) (w : World) :
    Calls Tryz.prog 102 #[.int .i64 (n % 4294967296), .int .i64 4] w fun e w' => ∃ p c, e = .returned (.slice p 4 c) ∧ Own 5 w' w.heap.size w'.heap.size (.slice p 4 c) 4 (fourL false n) ∧ Below w.heap.size w w' :=
  specLittle_yes (n % 4294967296) 4 w (by omega) (by omega) (by omega) (by omega)
theorem fit4 (n : Int) : fitN (n % 4294967296) 4 = 4 ∧ fitL (n % 4294967296) 4 = littleL (n % 4294967296) 4 := by
  have h : fitN (n % 4294967296) 4 = 4 := fit_yes ⟨by omega, by omega, by omega⟩
  exact ⟨h, by unfold fitL; rw [h]⟩
theorem implGreat4 (n : Int) (w : World) :
    Calls Tryz.prog 57 #[.int .i64 (n % 4294967296), .int .i64 4] w fun e w' => ∃ p c, e = .returned (.slice p 4 c) ∧ Own 5 w' w.heap.size w'.heap.size (.slice p 4 c) 4 (fourL true n) ∧ Below w.heap.size w w' := by
  have h := implGreat_any (n % 4294967296) 4 w (by omega)
  rw [(fit4 n).1, (fit4 n).2] at h
  exact h
theorem specGreat4 (n : Int) (w : World) :
    Calls Tryz.prog 74 #[.int .i64 (n % 4294967296), .int .i64 4] w fun e w' => ∃ p c, e = .returned (.slice p 4 c) ∧ Own 5 w' w.heap.size w'.heap.size (.slice p 4 c) 4 (fourL true n) ∧ Below w.heap.size w w' := by
  have h := specGreat_any (n % 4294967296) 4 w (by omega)
  rw [(fit4 n).1, (fit4 n).2] at h
  exact h
set_option maxHeartbeats 2000000 in
theorem implBytesLittle_any (p : Option Addr) (n c : Nat) (xs : List Int) (w : World) (hn : n ≤ 1073741824) (hx : xs.length = n) (h : IntsIn w p n xs) :
    Calls Tryz.prog 194 #[.slice p n c, .bool false] w fun e w' => ∃ p' c', e = .returned (.slice p' (4 * n) c') ∧ Own 5 w' w.heap.size w'.heap.size (.slice p' (4 * n) c') (4 * n) (bytesL false xs) ∧ Below w.heap.size w w' := by
  obtain ⟨i0, hi, hz0, hz1, hz2⟩ := info_parts infoByte
  go_enter Tryz.func194, Tryz.ntmps194
  go_wp2_with (at_make; refine wpList_make_own _ rfl _ _ 22 rfl w.heap.size 5 i0 (.int .u8 0) 1 Tryz.underlying22 hi hz0 hz1 _ _ _ (4 * n) rfl rfl (by simp) (by rw [hz2]; omega) (by unfold maxLen; omega) (Nat.le_refl _) ?_)
  intro w1 hown hgrow
  have hbel : Below w.heap.size w w1 := (Below.refl _ _).grown hgrow (Nat.le_refl _) (fun _ h => by cases h)
  clear hgrow
  go_wp2
  go_loopw [6, 16] (fun v i wr => ∃ k : Nat, k ≤ n ∧ i = .int .i64 k ∧ wr.ownsRow w.heap.size 5 1 v (4 * k) ((bytesL false (xs.take k)).map (Value.int .u8)) ∧ Below w.heap.size w wr)
    (fun _ i _ => n - (intOf i).toNat)
  case atStart => exact ⟨0, Nat.zero_le _, rfl, by simpa [bytesL] using hown, hbel⟩
  case round =>
    clear hown hbel
    obtain ⟨k, hk, rfl, hown, hbel⟩ := hrel
    by_cases hlt : k < n
    · obtain ⟨b, o, rfl, hcell⟩ := h (by omega)
      have HN : Hid (bytesL false (xs.take k) ++ fourL false (xs.getD k 0) = bytesL false (xs.take (k + 1))) := bytesL_step _ _ _ (by omega)
      have hc := hcell k hlt
      have c0 : wr.cell? ⟨b, o + k, none⟩ = some (.int .i64 (xs.getD k 0)) := by
        rw [hbel.cell (p := ⟨b, o + k, none⟩) (World.block_lt_of_cell? w ⟨b, o + k, none⟩ hc)]
        exact hc
      clear hc hcell h
      generalize xs.getD k 0 = u at HN c0
      go_wp2_with (fail)
      refine (implWord_same u _).mono ?_
      rintro e w2 ⟨rfl, rfl⟩
      go_wp2_with (fail)
      refine (implLittle4 u _).mono ?_
      rintro e w2 ⟨q, d, rfl, r2, b2⟩
      replace hown := owns_below hown b2
      replace hbel := below_on hbel b2
      have hsz := hbel.size
      have hl4 := fourL_length false u
      have hin := r2.bytes
      clear r2 b2 c0
      generalize fourL false u = ys at HN hl4 hin
      go_wp2_with (at_builtin; refine list_spread hi hz0 hz1 hz2 (.tmp 20) (.tmp 24) 22 Tryz.underlying22 hown hin hl4 (by omega) (by omega) (by omega) hsz (by rfl) (by rfl) (by rfl) (by rfl) ?_; intro g cap w3 ho3 _ hb3; rw [HN.out] at ho3)
      go_roundw
      case rel => exact ⟨k + 1, by omega, by go_num, ho3, hbel.trans hb3⟩
      case measure => simp [intOf]; omega
    · have hkn : k = n := by omega
      subst hkn
      obtain ⟨p', c', hv⟩ := owns_form hown
      subst hv
      rw [List.take_of_length_le (by omega)] at hown
      clear h
      go_wp2
      go_ret
      exact ⟨_, _, rfl, .of hown, hbel⟩
set_option maxHeartbeats 2000000 in
theorem implBytesGreat_any (p : Option Addr) (n c : Nat) (xs : List Int) (w : World) (hn : n ≤ 1073741824) (hx : xs.length = n) (h : IntsIn w p n xs) :
    Calls Tryz.prog 194 #[.slice p n c, .bool true] w fun e w' => ∃ p' c', e = .returned (.slice p' (4 * n) c') ∧ Own 5 w' w.heap.size w'.heap.size (.slice p' (4 * n) c') (4 * n) (bytesL true xs) ∧ Below w.heap.size w w' := by
  obtain ⟨i0, hi, hz0, hz1, hz2⟩ := info_parts infoByte
  go_enter Tryz.func194, Tryz.ntmps194
  go_wp2_with (at_make; refine wpList_make_own _ rfl _ _ 22 rfl w.heap.size 5 i0 (.int .u8 0) 1 Tryz.underlying22 hi hz0 hz1 _ _ _ (4 * n) rfl rfl (by simp) (by rw [hz2]; omega) (by unfold maxLen; omega) (Nat.le_refl _) ?_)
  intro w1 hown hgrow
  have hbel : Below w.heap.size w w1 := (Below.refl _ _).grown hgrow (Nat.le_refl _) (fun _ h => by cases h)
  clear hgrow
  go_wp2
  go_loopw [6, 16] (fun v i wr => ∃ k : Nat, k ≤ n ∧ i = .int .i64 k ∧ wr.ownsRow w.heap.size 5 1 v (4 * k) ((bytesL true (xs.take k)).map (Value.int .u8)) ∧ Below w.heap.size w wr)
    (fun _ i _ => n - (intOf i).toNat)
  case atStart => exact ⟨0, Nat.zero_le _, rfl, by simpa [bytesL] using hown, hbel⟩
  case round =>
    clear hown hbel
    obtain ⟨k, hk, rfl, hown, hbel⟩ := hrel
    by_cases hlt : k < n
    · obtain ⟨b, o, rfl, hcell⟩ := h (by omega)
      have HN : Hid (bytesL true (xs.take k) ++ fourL true (xs.getD k 0) = bytesL true (xs.take (k + 1))) := bytesL_step _ _ _ (by omega)
      have hc := hcell k hlt
      have c0 : wr.cell? ⟨b, o + k, none⟩ = some (.int .i64 (xs.getD k 0)) := by
        rw [hbel.cell (p := ⟨b, o + k, none⟩) (World.block_lt_of_cell? w ⟨b, o + k, none⟩ hc)]
        exact hc
      clear hc hcell h
      generalize xs.getD k 0 = u at HN c0
      go_wp2_with (fail)
      refine (implWord_same u _).mono ?_
      rintro e w2 ⟨rfl, rfl⟩
      go_wp2_with (fail)
      refine (implGreat4 u _).mono ?_
      rintro e w2 ⟨q, d, rfl, r2, b2⟩
      replace hown := owns_below hown b2
      replace hbel := below_on hbel b2
      have hsz := hbel.size
      have hl4 := fourL_length true u
      have hin := r2.bytes
      clear r2 b2 c0
      generalize fourL true u = ys at HN hl4 hin
      go_wp2_with (at_builtin; refine list_spread hi hz0 hz1 hz2 (.tmp 20) (.tmp 24) 22 Tryz.underlying22 hown hin hl4 (by omega) (by omega) (by omega) hsz (by rfl) (by rfl) (by rfl) (by rfl) ?_; intro g cap w3 ho3 _ hb3; rw [HN.out] at ho3)
      go_roundw
      case rel => exact ⟨k + 1, by omega, by go_num, ho3, hbel.trans hb3⟩
      case measure => simp [intOf]; omega
    · have hkn : k = n := by omega
      subst hkn
      obtain ⟨p', c', hv⟩ := owns_form hown
      subst hv
      rw [List.take_of_length_le (by omega)] at hown
      clear h
      go_wp2
      go_ret
      exact ⟨_, _, rfl, .of hown, hbel⟩
set_option maxHeartbeats 2000000 in
theorem specBytesLittle_any (p : Option Addr) (n c : Nat) (xs : List Int) (w : World) (hn : n ≤ 1073741824) (hx : xs.length = n) (h : IntsIn w p n xs) :
    Calls Tryz.prog 158 #[.slice p n c, .bool false] w fun e w' => ∃ p' c', e = .returned (.slice p' (4 * n) c') ∧ Own 5 w' w.heap.size w'.heap.size (.slice p' (4 * n) c') (4 * n) (bytesL false xs) ∧ Below w.heap.size w w' := by
  obtain ⟨i0, hi, hz0, hz1, hz2⟩ := info_parts infoByte
  go_enter Tryz.func158, Tryz.ntmps158
  go_wp2
  go_loopw [5, 6] (fun v i wr => ∃ k : Nat, k ≤ n ∧ i = .int .i64 k ∧ wr.ownsRow w.heap.size 5 1 v (4 * k) ((bytesL false (xs.take k)).map (Value.int .u8)) ∧ Below w.heap.size w wr)
    (fun _ i _ => n - (intOf i).toNat)
  case atStart => exact ⟨0, Nat.zero_le _, rfl, World.ownsRow_made w #[] 0 (Nat.le_refl _) (by unfold maxLen; omega) rfl, (Below.refl _ _).alloc (Nat.le_refl _) _⟩
  case round =>
    obtain ⟨k, hk, rfl, hown, hbel⟩ := hrel
    by_cases hlt : k < n
    · obtain ⟨b, o, rfl, hcell⟩ := h (by omega)
      have HN : Hid (bytesL false (xs.take k) ++ fourL false (xs.getD k 0) = bytesL false (xs.take (k + 1))) := bytesL_step _ _ _ (by omega)
      have hc := hcell k hlt
      have c0 : wr.cell? ⟨b, o + k, none⟩ = some (.int .i64 (xs.getD k 0)) := by
        rw [hbel.cell (p := ⟨b, o + k, none⟩) (World.block_lt_of_cell? w ⟨b, o + k, none⟩ hc)]
        exact hc
      clear hc hcell h
      generalize xs.getD k 0 = u at HN c0
      go_wp2_with (fail)
      refine (specWord_same u _).mono ?_
      rintro e w2 ⟨rfl, rfl⟩
      go_wp2_with (fail)
      refine (specLittle4 u _).mono ?_
      rintro e w2 ⟨q, d, rfl, r2, b2⟩
      replace hown := owns_below hown b2
      replace hbel := below_on hbel b2
      have hsz := hbel.size
      have hl4 := fourL_length false u
      have hin := r2.bytes
      clear r2 b2 c0
      generalize fourL false u = ys at HN hl4 hin
      go_wp2_with (at_builtin; refine list_spread hi hz0 hz1 hz2 (.tmp 23) (.tmp 29) 22 Tryz.underlying22 hown hin hl4 (by omega) (by omega) (by omega) hsz (by rfl) (by rfl) (by rfl) (by rfl) ?_; intro g cap w3 ho3 _ hb3; rw [HN.out] at ho3)
      go_roundw
      case rel => exact ⟨k + 1, by omega, by go_num, ho3, hbel.trans hb3⟩
      case measure => simp [intOf]; omega
    · have hkn : k = n := by omega
      subst hkn
      obtain ⟨p', c', hv⟩ := owns_form hown
      subst hv
      rw [List.take_of_length_le (by omega)] at hown
      clear h
      go_wp2
      go_ret
      exact ⟨_, _, rfl, .of hown, hbel⟩
set_option maxHeartbeats 2000000 in
theorem specBytesGreat_any (p : Option Addr) (n c : Nat) (xs : List Int) (w : World) (hn : n ≤ 1073741824) (hx : xs.length = n) (h : IntsIn w p n xs) :
    Calls Tryz.prog 158 #[.slice p n c, .bool true] w fun e w' => ∃ p' c', e = .returned (.slice p' (4 * n) c') ∧ Own 5 w' w.heap.size w'.heap.size (.slice p' (4 * n) c') (4 * n) (bytesL true xs) ∧ Below w.heap.size w w' := by
  obtain ⟨i0, hi, hz0, hz1, hz2⟩ := info_parts infoByte
  go_enter Tryz.func158, Tryz.ntmps158
  go_wp2
  go_loopw [5, 6] (fun v i wr => ∃ k : Nat, k ≤ n ∧ i = .int .i64 k ∧ wr.ownsRow w.heap.size 5 1 v (4 * k) ((bytesL true (xs.take k)).map (Value.int .u8)) ∧ Below w.heap.size w wr)
    (fun _ i _ => n - (intOf i).toNat)
  case atStart => exact ⟨0, Nat.zero_le _, rfl, World.ownsRow_made w #[] 0 (Nat.le_refl _) (by unfold maxLen; omega) rfl, (Below.refl _ _).alloc (Nat.le_refl _) _⟩
  case round =>
    obtain ⟨k, hk, rfl, hown, hbel⟩ := hrel
    by_cases hlt : k < n
    · obtain ⟨b, o, rfl, hcell⟩ := h (by omega)
      have HN : Hid (bytesL true (xs.take k) ++ fourL true (xs.getD k 0) = bytesL true (xs.take (k + 1))) := bytesL_step _ _ _ (by omega)
      have hc := hcell k hlt
      have c0 : wr.cell? ⟨b, o + k, none⟩ = some (.int .i64 (xs.getD k 0)) := by
        rw [hbel.cell (p := ⟨b, o + k, none⟩) (World.block_lt_of_cell? w ⟨b, o + k, none⟩ hc)]
        exact hc
      clear hc hcell h
      generalize xs.getD k 0 = u at HN c0
      go_wp2_with (fail)
      refine (specWord_same u _).mono ?_
      rintro e w2 ⟨rfl, rfl⟩
      go_wp2_with (fail)
      refine (specGreat4 u _).mono ?_
      rintro e w2 ⟨q, d, rfl, r2, b2⟩
      replace hown := owns_below hown b2
      replace hbel := below_on hbel b2
      have hsz := hbel.size
      have hl4 := fourL_length true u
      have hin := r2.bytes
      clear r2 b2 c0
      generalize fourL true u = ys at HN hl4 hin
      go_wp2_with (at_builtin; refine list_spread hi hz0 hz1 hz2 (.tmp 15) (.tmp 21) 22 Tryz.underlying22 hown hin hl4 (by omega) (by omega) (by omega) hsz (by rfl) (by rfl) (by rfl) (by rfl) ?_; intro g cap w3 ho3 _ hb3; rw [HN.out] at ho3)
      go_roundw
      case rel => exact ⟨k + 1, by omega, by go_num, ho3, hbel.trans hb3⟩
      case measure => simp [intOf]; omega
    · have hkn : k = n := by omega
      subst hkn
      obtain ⟨p', c', hv⟩ := owns_form hown
      subst hv
      rw [List.take_of_length_le (by omega)] at hown
      clear h
      go_wp2
      go_ret
      exact ⟨_, _, rfl, .of hown, hbel⟩
theorem implWordBytes_any (p : Option Addr) (n c : Nat) (great : Bool) (xs : List Int) (w : World) (hn : n ≤ 1073741824) (hx : xs.length = n) (h : IntsIn w p n xs) :
    Calls Tryz.prog 194 #[.slice p n c, .bool great] w fun e w' => ∃ p' c', e = .returned (.slice p' (4 * n) c') ∧ Own 5 w' w.heap.size w'.heap.size (.slice p' (4 * n) c') (4 * n) (bytesL great xs) ∧ Below w.heap.size w w' := by
  cases great
  · exact implBytesLittle_any p n c xs w hn hx h
  · exact implBytesGreat_any p n c xs w hn hx h
theorem specWordBytes_any (p : Option Addr) (n c : Nat) (great : Bool) (xs : List Int) (w : World) (hn : n ≤ 1073741824) (hx : xs.length = n) (h : IntsIn w p n xs) :
    Calls Tryz.prog 158 #[.slice p n c, .bool great] w fun e w' => ∃ p' c', e = .returned (.slice p' (4 * n) c') ∧ Own 5 w' w.heap.size w'.heap.size (.slice p' (4 * n) c') (4 * n) (bytesL great xs) ∧ Below w.heap.size w w' := by
  cases great
  · exact specBytesLittle_any p n c xs w hn hx h
  · exact specBytesGreat_any p n c xs w hn hx h
end Go.Proofs.YtnpffnhiefgglaaGreatDoor
namespace Go.Proofs.YtnpffnhiefgglaaGreatDoor
set_option maxRecDepth 100000
def colsL (L : List Int) : Nat → List Int
  | 0 => L
  | k + 1 => quarterL (colsL L k) k (k + 4) (k + 8) (k + 12)
def diasL (L : List Int) : Nat → List Int
  | 0 => L
  | k + 1 => quarterL (diasL L k) k (4 + (k + 1) % 4) (8 + (k + 2) % 4) (12 + (k + 3) % 4)
def doubleL (L : List Int) : List Int := diasL (colsL L 4) 4
def tenL (L : List Int) : Nat → List Int
  | 0 => L
  | k + 1 => doubleL (tenL L k)
theorem quarterL_length (L : List Int) (a b c d : Nat) : (quarterL L a b c d).length = L.length := setQ_length
theorem colsL_length (L : List Int) : ∀ k, (colsL L k).length = L.length
  | 0 => rfl
  | k + 1 => by rw [colsL, quarterL_length, colsL_length L k]
theorem diasL_length (L : List Int) : ∀ k, (diasL L k).length = L.length
  | 0 => rfl
  | k + 1 => by rw [diasL, quarterL_length, diasL_length L k]
theorem doubleL_length (L : List Int) : (doubleL L).length = L.length := by rw [doubleL, diasL_length, colsL_length]
theorem tenL_length (L : List Int) : ∀ k, (tenL L k).length = L.length
  | 0 => rfl
  | k + 1 => by rw [tenL, doubleL_length, tenL_length L k]
def sumsL (X F : List Int) (k : Nat) : List Int := ((List.range k).map fun i => (((wordN (X.getD i 0) + wordN (F.getD i 0)) % 4294967296 : Nat) : Int)) ++ X.drop k
theorem sumsL_length {X : List Int} (F : List Int) {k : Nat} (h : k ≤ X.length) : (sumsL X F k).length = X.length := by simp [sumsL]; omega
theorem sumsL_get {X : List Int} (F : List Int) {k : Nat} (h : k < X.length) : (sumsL X F k)[k]? = some (X.getD k 0) := by
  rw [sumsL, List.getElem?_append_right (by simp)]
  simp [List.getElem?_eq_getElem h]
theorem sumsL_set {X : List Int} (F : List Int) {k : Nat} (h : k < X.length) (z : Int) (hz : z = (((wordN (X.getD k 0) + wordN (F.getD k 0)) % 4294967296 : Nat) : Int)) : (sumsL X F k).set k z = sumsL X F (k + 1) := by
  subst hz
  simp only [sumsL]
  rw [List.set_append_right _ _ (by simp), List.length_map, List.length_range, Nat.sub_self, List.range_succ, List.map_append, List.append_assoc]
  congr 1
  rw [List.drop_eq_getElem_cons h]
  rfl
def firstL (key : List Int) (count : Int) (nonce : List Int) : List Int := [1634760805, 857760878, 2036477234, 1797285236] ++ wordsL false key 8 ++ [count] ++ wordsL false nonce 3
theorem firstL_length (key : List Int) (count : Int) (nonce : List Int) : (firstL key count nonce).length = 16 := by simp [firstL, wordsL]
def blkOk (n m : Nat) (count : Int) : Prop := n = 32 ∧ m = 12 ∧ 0 ≤ count ∧ count ≤ 4294967295
instance (n m : Nat) (count : Int) : Decidable (blkOk n m count) := inferInstanceAs (Decidable (_ ∧ _ ∧ _ ∧ _))
def blkB (key : List Int) (count : Int) (nonce : List Int) : List Int := bytesL false (sumsL (tenL (firstL key count nonce) 10) (firstL key count nonce) 16)
def blkN (n m : Nat) (count : Int) : Nat := if blkOk n m count then 64 else 0
def blkL (key : List Int) (count : Int) (nonce : List Int) : List Int := if blkOk key.length nonce.length count then blkB key count nonce else []
theorem blkB_length (key : List Int) (count : Int) (nonce : List Int) : (blkB key count nonce).length = 64 := by
  rw [blkB, bytesL_length, sumsL_length _ (by rw [tenL_length, firstL_length]; decide), tenL_length, firstL_length]
theorem blkL_length (key : List Int) (count : Int) (nonce : List Int) : (blkL key count nonce).length = blkN key.length nonce.length count := by
  unfold blkL blkN
  split
  · exact blkB_length _ _ _
  · rfl
end Go.Proofs.YtnpffnhiefgglaaGreatDoor
namespace Go.Proofs.YtnpffnhiefgglaaGreatDoor
open Go.RowKit
set_option maxRecDepth 100000
set_option maxHeartbeats 400000 in
theorem l5Double_any (p : Option Addr) (c : Nat) (L : List Int) (w : World) (hL : L.length = 16) (h : IntsIn w p 16 L) :
    Calls Tryz.prog 156 #[.slice p 16 c] w fun e w' => ∃ p' c', e = .returned (.slice p' 16 c') ∧ OwnI 3 w' w.heap.size w'.heap.size (.slice p' 16 c') 16 (doubleL L) ∧ Below w.heap.size w w' := by
  go_enter Tryz.func156, Tryz.ntmps156
  go_wp2_with (fail)
  have HC : Hid (∀ k, (colsL L k).length = 16) := fun k => by rw [colsL_length]; exact hL
  have HC0 : Hid (∀ k, quarterL (colsL L k) k (k + 4) (k + 8) (k + 12) = colsL L (k + 1)) := fun _ => rfl
  go_loopw [0, 3] (fun v i wr => ∃ (k : Nat) (q : Option Addr) (cc : Nat), k ≤ 4 ∧ i = .int .i64 k ∧ v = .slice q 16 cc ∧ IntsIn wr q 16 (colsL L k) ∧ Below w.heap.size w wr)
    (fun _ i _ => 4 - (intOf i).toNat)
  case atStart => exact ⟨0, p, c, by omega, rfl, rfl, h, Below.refl _ _⟩
  case round =>
    obtain ⟨k, q, cc, hk, rfl, rfl, hI, hb⟩ := hrel
    by_cases hlt : k < 4
    · have CQ := specQuarter_yes q cc (colsL L k) k (k + 4) (k + 8) (k + 12) wr (HC.out k) hI (by omega) (by omega) (by omega) (by omega) (by omega) (by omega) (by omega) (by omega) (by omega) (by omega)
      rw [HC0.out k, show ((k + 4 : Nat) : Int) = (k : Int) + 4 by omega, show ((k + 8 : Nat) : Int) = (k : Int) + 8 by omega, show ((k + 12 : Nat) : Int) = (k : Int) + 12 by omega] at CQ
      obtain ⟨X, hX⟩ : ∃ X, X = colsL L (k + 1) := ⟨_, rfl⟩
      rw [← hX] at CQ
      replace hX : Hid (X = colsL L (k + 1)) := hX
      clear hI
      go_wp2_with (fail)
      refine CQ.mono ?_
      rintro e w1 ⟨p1, c1, rfl, r1, b1⟩
      rw [hX.out] at r1
      have hI1 := r1.ints
      clear CQ r1
      go_wp2
      go_roundw
      case rel => exact ⟨k + 1, p1, c1, by omega, by go_num, rfl, hI1, below_on hb b1⟩
      case measure => simp [intOf]; omega
    · have hk4 : k = 4 := by omega
      have hnl : ¬ (k : Int) < 4 := by omega
      rw [hk4] at hI
      clear hk4
      have hD : (colsL L 4).length = 16 := HC.out 4
      have HE : Hid (doubleL L = diasL (colsL L 4) 4) := rfl
      generalize colsL L 4 = M at hI hD HE
      have HD : Hid (∀ k, (diasL M k).length = 16) := fun k => by rw [diasL_length]; exact hD
      have HD0 : Hid (∀ k, quarterL (diasL M k) k (4 + (k + 1) % 4) (8 + (k + 2) % 4) (12 + (k + 3) % 4) = diasL M (k + 1)) := fun _ => rfl
      clear HC HC0 h hL
      go_wp2_with (fail)
      obtain ⟨wo, hwo⟩ : ∃ wo, wo = wr := ⟨_, rfl⟩
      subst hwo
      go_loopw [0, 4] (fun v i wx => ∃ (k : Nat) (q : Option Addr) (cc lo hi : Nat), k ≤ 4 ∧ i = .int .i64 k ∧ v = .slice q 16 cc ∧ IntsIn wx q 16 (diasL M k) ∧ Hid (0 < k → w.heap.size ≤ lo ∧ hi ≤ wx.heap.size ∧ OwnI 3 wx lo hi (.slice q 16 cc) 16 (diasL M k)) ∧ Below w.heap.size w wx)
        (fun _ i _ => 4 - (intOf i).toNat)
      case atStart => exact ⟨0, q, cc, 0, 0, by omega, rfl, rfl, hI, fun h => absurd h (by omega), hb⟩
      case round =>
        clear hI hb
        obtain ⟨k, q, cc, lo, hh, hk, rfl, rfl, hI, hO, hb⟩ := hrel
        by_cases hlt : k < 4
        · have CQ := specQuarter_yes q cc (diasL M k) k (4 + (k + 1) % 4) (8 + (k + 2) % 4) (12 + (k + 3) % 4) wr (HD.out k) hI (by omega) (by omega) (by omega) (by omega) (by omega) (by omega) (by omega) (by omega) (by omega) (by omega)
          rw [HD0.out k] at CQ
          obtain ⟨X, hX⟩ : ∃ X, X = diasL M (k + 1) := ⟨_, rfl⟩
          rw [← hX] at CQ
          replace hX : Hid (X = diasL M (k + 1)) := hX
          rw [show ((4 + (k + 1) % 4 : Nat) : Int) = 4 + ((k : Int) + 1) % 4 by omega, show ((8 + (k + 2) % 4 : Nat) : Int) = 8 + ((k : Int) + 2) % 4 by omega, show ((12 + (k + 3) % 4 : Nat) : Int) = 12 + ((k : Int) + 3) % 4 by omega] at CQ
          have hlt' : (k : Int) < 4 := by omega
          replace CQ : Hid (Calls Tryz.prog 197 _ wr _) := CQ
          clear hI hO
          go_wp2_with (fail)
          refine CQ.out.mono ?_
          rintro e w1 ⟨p1, c1, rfl, r1, b1⟩
          rw [hX.out] at r1
          have hI1 := r1.ints
          have hO1 : Hid (0 < k + 1 → w.heap.size ≤ wr.heap.size ∧ w1.heap.size ≤ w1.heap.size ∧ OwnI 3 w1 wr.heap.size w1.heap.size (.slice p1 16 c1) 16 (diasL M (k + 1))) := fun _ => ⟨hb.size, Nat.le_refl _, r1⟩
          clear CQ r1
          go_wp2
          go_roundw
          case rel => exact ⟨k + 1, p1, c1, _, _, by omega, by go_num, rfl, hI1, hO1, below_on hb b1⟩
          case measure => simp [intOf]; omega
        · have hk4 : k = 4 := by omega
          have hnl : ¬ (k : Int) < 4 := by omega
          obtain ⟨g1, g2, g3⟩ := hO.out (by omega)
          rw [hk4, ← HE.out] at g3
          clear hk4 hI hO
          go_wp2
          go_ret
          exact ⟨_, _, rfl, ⟨owns_mono g3.1 g1, fun k hk => Nat.lt_of_lt_of_le (g3.2 k hk) g2⟩, hb⟩
theorem cell_grownQ {w w' : World} {r : Nat} {p : Addr} (h : w.grownBy w' (some r)) (h1 : p.block < w.heap.size) (h2 : p.block ≠ r) : w'.cell? p = w.cell? p := by
  simp only [World.cell?, h.block p.block h1 (by simp; exact h2)]
set_option maxHeartbeats 1000000 in
theorem specBlk_yes (p q : Option Addr) (c d : Nat) (ks ns : List Int) (count : Int) (w : World) (hx : ks.length = 32) (hy : ns.length = 12) (h : BytesIn w p 32 ks) (h' : BytesIn w q 12 ns) (hb1 : ∀ x ∈ ks, 0 ≤ x ∧ x < 256) (hb2 : ∀ x ∈ ns, 0 ≤ x ∧ x < 256) (hc : 0 ≤ count ∧ count ≤ 4294967295) :
    Calls Tryz.prog 115 #[.slice p 32 c, .int .i64 count, .slice q 12 d] w fun e w' => ∃ p' c', e = .returned (.slice p' 64 c') ∧ Own 5 w' w.heap.size w'.heap.size (.slice p' 64 c') 64 (blkB ks count ns) ∧ Below w.heap.size w w' := by
  obtain ⟨i0, hi, hz0, hz1, hz2⟩ := info_parts infoInt
  have CI : ∀ X, Calls Tryz.prog 42 #[.int .i64 count, .int .i64 0, .int .i64 4294967295] X fun e w' => e = .returned (.bool true) ∧ w' = X := fun X => by
    have := l1In_is count 0 4294967295 X
    rw [decide_eq_true hc] at this
    exact this
  have C1 := fun X hX => specWords_any p 32 c false ks X (by omega) hx hX hb1
  have C2 := fun X hX => specWords_any q 12 d false ns X (by omega) hy hX hb2
  have l1 : (wordsL false ks (32 / 4)).length = 8 := by simp [wordsL]
  have l2 : (wordsL false ns (12 / 4)).length = 3 := by simp [wordsL]
  have HF : Hid ([1634760805, 857760878, 2036477234, 1797285236] ++ wordsL false ks (32 / 4) ++ [count] ++ wordsL false ns (12 / 4) = firstL ks count ns) := rfl
  have HB : Hid (bytesL false (sumsL (tenL (firstL ks count ns) 10) (firstL ks count ns) 16) = blkB ks count ns) := rfl
  have lF := firstL_length ks count ns
  simp only [Nat.reduceDiv] at C1 C2 l1 l2 HF
  generalize firstL ks count ns = F at HF HB lF
  generalize wordsL false ks 8 = W1 at C1 l1 HF
  generalize wordsL false ns 3 = W2 at C2 l2 HF
  have hown0 : (w.alloc (.cells #[.int .i64 1634760805, .int .i64 857760878, .int .i64 2036477234, .int .i64 1797285236] 3)).ownsRow w.heap.size 3 1 (.slice (some ⟨w.heap.size, 0, none⟩) 4 4) 4 (([1634760805, 857760878, 2036477234, 1797285236] : List Int).map (Value.int .i64)) :=
    ⟨rfl, .inr ⟨w.heap.size, 4, _, rfl, Nat.le_refl _, heap_alloc_new w _, Nat.le_refl _, by unfold maxLen; omega, rfl, rfl⟩⟩
  have hb0 : Below w.heap.size w (w.alloc (.cells #[.int .i64 1634760805, .int .i64 857760878, .int .i64 2036477234, .int .i64 1797285236] 3)) := (Below.refl _ _).alloc (Nat.le_refl _) _
  generalize hCC : ([1634760805, 857760878, 2036477234, 1797285236] : List Int) = CC at hown0 HF
  clear hCC
  go_enter Tryz.func115, Tryz.ntmps115
  go_wp2_with (fail)
  refine (CI _).mono ?_
  rintro e w1 ⟨rfl, hw1⟩
  obtain rfl := hw1.symm
  clear CI
  go_wp2_with (fail)
  generalize w.alloc (.cells #[.int .i64 1634760805, .int .i64 857760878, .int .i64 2036477234, .int .i64 1797285236] 3) = wa at hown0 hb0 ⊢
  refine (C1 _ (in_below h hb0)).mono ?_
  rintro e wb ⟨p2, c2, rfl, r2, b2⟩
  have ho := owns_below hown0 b2
  have hin := r2.ints
  have bel := below_on hb0 b2
  have hs := bel.size
  clear C1 hown0 hb0 r2 b2
  go_wp2_with (first | (at_builtin; refine list_spreadI hi hz0 hz1 hz2 (.tmp 26) (.tmp 28) 52 Tryz.underlying52 ho hin l1 (by omega) (by omega) (by omega) hs (by rfl) (by rfl) (by rfl) (by rfl) ?_; intro g3 cap3 w3 ho3 hb3; have bel3 := bel.trans hb3; have hs3 := bel3.size) | (at_builtin; refine list_pushI hi hz0 hz1 hz2 (.tmp 30) (.tmp 32) 52 Tryz.underlying52 _ ho3 (by omega) hs3 (by rfl) (by rfl) (by rfl) (by rfl) ?_; intro g4 cap4 w4 ho4 hb4; have bel4 := bel3.trans hb4))
  refine (C2 _ (in_below h' bel4)).mono ?_
  rintro e w5 ⟨p5, c5, rfl, r5, b5⟩
  have ho5 := owns_below ho4 b5
  have hin5 := r5.ints
  have bel5 := below_on bel4 b5
  have hs5 := bel5.size
  clear C2 ho4 r5 b5 ho3 hb3 hb4 bel3 bel4 ho hin bel
  go_wp2_with (first | (at_builtin; refine list_spreadI hi hz0 hz1 hz2 (.tmp 34) (.tmp 36) 52 Tryz.underlying52 ho5 hin5 l2 (by omega) (by omega) (by omega) hs5 (by rfl) (by rfl) (by rfl) (by rfl) ?_; intro gf cf w6 ho6 hb6; rw [HF.out] at ho6; have bel6 := bel5.trans hb6; have hF := owns_inI ho6; have hx0 : (w6.alloc (.cells #[] 3)).ownsRow w6.heap.size 3 1 (.slice (some ⟨w6.heap.size, 0, none⟩) 0 0) 0 (([] : List Int).map (Value.int .i64)) := World.ownsRow_made w6 #[] 0 (Nat.le_refl _) (by unfold maxLen; omega) rfl; have bx0 : Below w6.heap.size w6 (w6.alloc (.cells #[] 3)) := (Below.refl _ _).alloc (Nat.le_refl _) _; have hF0 := in_belowI hF bx0) | (at_builtin; refine list_spreadI hi hz0 hz1 hz2 (.tmp 38) (.tmp 39) 52 Tryz.underlying52 hx0 hF0 lF (by omega) (by omega) (by omega) (by simp) (by rfl) (by rfl) (by rfl) (by rfl) ?_; intro gx cx w7 ho7 hb7; simp only [Nat.zero_add, List.nil_append] at ho7 ⊢))
  have hgf : gf < w6.heap.size := (ho6.lt gf rfl).2
  have b67 : Below w6.heap.size w6 w7 := bx0.trans hb7
  have bel7 := below_on bel6 b67
  have hF7 := in_belowI hF b67
  have hsw := bel6.size
  clear ho6 ho5 hin5 hF hx0 bx0 hF0 hb7 hb6 bel5
  have HT : Hid (∀ k, (tenL F k).length = 16) := fun k => by rw [tenL_length]; exact lF
  have HT0 : Hid (∀ k, doubleL (tenL F k) = tenL F (k + 1)) := fun _ => rfl
  go_loopw [8, 9] (fun v i wr => ∃ (k : Nat) (q : Option Addr) (cc : Nat), k ≤ 10 ∧ i = .int .i64 k ∧ v = .slice q 16 cc ∧ wr.ownsRow w6.heap.size 3 1 (.slice q 16 cc) 16 ((tenL F k).map (Value.int .i64)) ∧ IntsIn wr (some ⟨gf, 0, none⟩) 16 F ∧ Below w.heap.size w wr)
    (fun _ i _ => 10 - (intOf i).toNat)
  case atStart => exact ⟨0, _, cx, by omega, rfl, rfl, ho7, hF7, bel7⟩
  case round =>
    clear ho7 hF7 bel7
    obtain ⟨k, q, cc, hk, rfl, rfl, hX, hF, hb⟩ := hrel
    have hw6 : w6.heap.size ≤ wr.heap.size := Nat.le_trans (Nat.le_of_lt_succ (Nat.lt_succ_of_lt ((owns_at hX (by decide)).elim fun g e => by subst e; have := hX.lt g rfl; omega))) (Nat.le_refl _)
    by_cases hlt : k < 10
    · have CQ := l5Double_any q cc (tenL F k) wr (HT.out k) (owns_inI hX)
      rw [HT0.out k] at CQ
      obtain ⟨X, hXX⟩ : ∃ X, X = tenL F (k + 1) := ⟨_, rfl⟩
      rw [← hXX] at CQ
      replace hXX : Hid (X = tenL F (k + 1)) := hXX
      have hlt' : (k : Int) < 10 := by omega
      replace CQ : Hid (Calls Tryz.prog 156 _ wr _) := CQ
      clear hX
      go_wp2_with (fail)
      refine CQ.out.mono ?_
      rintro e w8 ⟨p8, c8, rfl, r8, b8⟩
      rw [hXX.out] at r8
      have hX8 := owns_mono r8.1 hw6
      have hF8 := in_belowI hF b8
      clear CQ r8 hF
      go_wp2
      go_roundw
      case rel => exact ⟨k + 1, p8, c8, by omega, by go_num, rfl, hX8, hF8, below_on hb b8⟩
      case measure => simp [intOf]; omega
    · have hk10 : k = 10 := by omega
      have hnl : ¬ (k : Int) < 10 := by omega
      rw [hk10] at hX
      clear hk10
      have lX : (tenL F 10).length = 16 := HT.out 10
      clear HT HT0
      generalize tenL F 10 = X at hX lX HB
      obtain ⟨gx, rfl⟩ := owns_at hX (by decide)
      obtain ⟨cx, hcx⟩ : ∃ cx, cx = cc := ⟨_, rfl⟩
      subst hcx
      have hgx := hX.lt gx rfl
      have hne : gf ≠ gx := by omega
      have h0 : wr.ownsRow w6.heap.size 3 1 (.slice (some ⟨gx, 0, none⟩) 16 cx) 16 ((sumsL X F 0).map (Value.int .i64)) := hX
      clear hX
      go_wp2_with (fail)
      obtain ⟨wo, hwo⟩ : ∃ wo, wo = wr := ⟨_, rfl⟩
      subst hwo
      go_loopw [10] (fun i wx => ∃ (k : Nat), k ≤ 16 ∧ i = .int .i64 k ∧ wx.ownsRow w6.heap.size 3 1 (.slice (some ⟨gx, 0, none⟩) 16 cx) 16 ((sumsL X F k).map (Value.int .i64)) ∧ IntsIn wx (some ⟨gf, 0, none⟩) 16 F ∧ Below w.heap.size w wx)
        (fun i _ => 16 - (intOf i).toNat)
      case atStart => exact ⟨0, by omega, rfl, h0, hF, hb⟩
      case round =>
        clear h0 hF hb
        obtain ⟨k, hk, rfl, hX, hF, hb⟩ := hrel
        by_cases hlt : k < 16
        · have hkX : k < X.length := by omega
          have hlt' : (k : Int) < 16 := by omega
          obtain ⟨u, hu⟩ : ∃ u, u = X.getD k 0 := ⟨_, rfl⟩
          obtain ⟨v, hv⟩ : ∃ v, v = F.getD k 0 := ⟨_, rfl⟩
          have cD : wr.cell? ⟨gx, k, none⟩ = some (.int .i64 u) := by rw [hX.cellAt k (by omega), List.getElem?_map, sumsL_get F hkX, hu]; rfl
          have cS : wr.cell? ⟨gf, k, none⟩ = some (.int .i64 v) := by
            obtain ⟨bb, oo, e1, e2⟩ := hF (by decide)
            simp only [Option.some.injEq, Addr.mk.injEq, and_true] at e1
            obtain ⟨rfl, rfl⟩ := e1
            have := e2 k (by omega)
            rw [Nat.zero_add] at this
            rw [this, hv]
          have hz : Hid (IntKind.i64.wrap (u + v) % 4294967296 = (((wordN (X.getD k 0) + wordN (F.getD k 0)) % 4294967296 : Nat) : Int)) := by rw [Hid, ← hu, ← hv]; exact wordN_add u v
          have hgfr : gf < wr.heap.size := World.block_lt_of_cell? wr ⟨gf, k, none⟩ cS
          have HS : Hid (∀ X, Below wr.heap.size wr X → X.cell? ⟨gx, k, none⟩ = some (.int .i64 u) ∧ X.cell? ⟨gf, k, none⟩ = some (.int .i64 v)) := fun X hX' => ⟨(hX'.cell (p := ⟨gx, k, none⟩) (hX.lt gx rfl).2).trans cD, (hX'.cell (p := ⟨gf, k, none⟩) hgfr).trans cS⟩
          clear hu hv
          go_wp2_with (fail)
          refine wp_region_noPanic ?_
          refine wp_region_K 13 (fun X => X.cell? ⟨gx, k, none⟩ = some (.int .i64 u) ∧ X.cell? ⟨gf, k, none⟩ = some (.int .i64 v)) (by kernel_rfl) ?_
          have hHeld := HS.out _ (below_drew0 wr)
          refine anyK_take (i := 0) (v := .slice (some ⟨gx, 0, none⟩) 16 cx) rfl rfl (by kernel_rfl) (by kernel_rfl) (by kernel_rfl) (by kernel_rfl) (by kernel_rfl) (fun _ _ _ h => h) (Or.inl ⟨by rfl, fun w hSw => by ((try dsimp only at hSw); go_simp)⟩) hHeld ?_
          walk_nrm
          refine anyK_take (i := 1) (v := .int .i64 (k : Int)) rfl rfl (by kernel_rfl) (by kernel_rfl) (by kernel_rfl) (by kernel_rfl) (by kernel_rfl) (fun _ _ _ h => h) (Or.inl ⟨by rfl, fun w hSw => by ((try dsimp only at hSw); go_simp)⟩) hHeld ?_
          walk_nrm
          refine anyK_take (i := 2) (v := .slice (some ⟨gx, 0, none⟩) 16 cx) rfl rfl (by kernel_rfl) (by kernel_rfl) (by kernel_rfl) (by kernel_rfl) (by kernel_rfl) (fun _ _ _ h => h) (Or.inl ⟨by rfl, fun w hSw => by ((try dsimp only at hSw); go_simp)⟩) hHeld ?_
          walk_nrm
          refine anyK_take (i := 3) (v := .int .i64 (k : Int)) rfl rfl (by kernel_rfl) (by kernel_rfl) (by kernel_rfl) (by kernel_rfl) (by kernel_rfl) (fun _ _ _ h => h) (Or.inl ⟨by rfl, fun w hSw => by ((try dsimp only at hSw); go_simp)⟩) hHeld ?_
          walk_nrm
          refine anyK_take (i := 4) (v := .pointer (some ⟨gx, k, none⟩)) rfl rfl (by kernel_rfl) (by kernel_rfl) (by kernel_rfl) (by kernel_rfl) (by kernel_rfl) (fun _ _ _ h => h) (Or.inl ⟨by rfl, fun w hSw => by ((try dsimp only at hSw); go_simp)⟩) hHeld ?_
          walk_nrm
          refine anyK_take (i := 5) (v := .int .i64 u) rfl rfl (by kernel_rfl) (by kernel_rfl) (by kernel_rfl) (by kernel_rfl) (by kernel_rfl) (fun _ _ _ h => h) (Or.inl ⟨by rfl, fun w hSw => by (obtain ⟨hSw1, hSw2⟩ := hSw; go_simp)⟩) hHeld ?_
          walk_nrm
          refine anyK_take (i := 6) (v := .slice (some ⟨gf, 0, none⟩) 16 cf) rfl rfl (by kernel_rfl) (by kernel_rfl) (by kernel_rfl) (by kernel_rfl) (by kernel_rfl) (fun _ _ _ h => h) (Or.inl ⟨by rfl, fun w hSw => by ((try dsimp only at hSw); go_simp)⟩) hHeld ?_
          walk_nrm
          refine anyK_take (i := 7) (v := .int .i64 (k : Int)) rfl rfl (by kernel_rfl) (by kernel_rfl) (by kernel_rfl) (by kernel_rfl) (by kernel_rfl) (fun _ _ _ h => h) (Or.inl ⟨by rfl, fun w hSw => by ((try dsimp only at hSw); go_simp)⟩) hHeld ?_
          walk_nrm
          refine anyK_take (i := 8) (v := .pointer (some ⟨gf, k, none⟩)) rfl rfl (by kernel_rfl) (by kernel_rfl) (by kernel_rfl) (by kernel_rfl) (by kernel_rfl) (fun _ _ _ h => h) (Or.inl ⟨by rfl, fun w hSw => by ((try dsimp only at hSw); go_simp)⟩) hHeld ?_
          walk_nrm
          refine anyK_take (i := 9) (v := .int .i64 v) rfl rfl (by kernel_rfl) (by kernel_rfl) (by kernel_rfl) (by kernel_rfl) (by kernel_rfl) (fun _ _ _ h => h) (Or.inl ⟨by rfl, fun w hSw => by (obtain ⟨hSw1, hSw2⟩ := hSw; go_simp)⟩) hHeld ?_
          walk_nrm
          refine anyK_take (i := 10) (v := .int .i64 (IntKind.i64.wrap (u + v))) rfl rfl (by kernel_rfl) (by kernel_rfl) (by kernel_rfl) (by kernel_rfl) (by kernel_rfl) (fun _ _ _ h => h) (Or.inl ⟨by rfl, fun w hSw => by ((try dsimp only at hSw); go_simp)⟩) hHeld ?_
          walk_nrm
          refine anyK_one (i := 11) (by kernel_rfl) rfl (fun K hK => ?_)
          go_simp
          refine (specWord_any _ _).mono ?_
          rintro e w9 ⟨rfl, b9'⟩
          have b9 := below_on (below_drew0 wr) b9'
          go_wp2_with (fail)
          refine hK.out _ _ (fun _ => HS.out _ b9) ?_
          clear hK K
          have hHeld9 := HS.out _ b9
          refine anyK_take (i := 12) (v := .pointer (some ⟨gx, k, none⟩)) rfl rfl (by kernel_rfl) (by kernel_rfl) (by kernel_rfl) (by kernel_rfl) (by kernel_rfl) (fun _ _ _ h => h) (Or.inl ⟨by rfl, fun w hSw => by ((try dsimp only at hSw); go_simp)⟩) hHeld9 ?_
          walk_nrm
          have cw9 := hHeld9.1
          have fz9 := (owns_below hX b9).frozenAt k
          have st := (owns_below hX b9).stored k (.int .i64 (IntKind.i64.wrap (u + v) % 4294967296))
          rw [← List.map_set, sumsL_set F hkX _ hz.out] at st
          have inF := in_belowI hF b9
          have inF2 : IntsIn (w9.setCell ⟨gx, k, none⟩ (.int .i64 (IntKind.i64.wrap (u + v) % 4294967296))) (some ⟨gf, 0, none⟩) 16 F := fun h0 => by
            obtain ⟨bb, oo, e1, e2⟩ := inF h0
            simp only [Option.some.injEq, Addr.mk.injEq, and_true] at e1
            obtain ⟨rfl, rfl⟩ := e1
            exact ⟨_, _, rfl, fun i hi => (cell_grownQ (p := ⟨gf, 0 + i, none⟩) st.2 (World.block_lt_of_cell? w9 ⟨gf, 0 + i, none⟩ (e2 i hi)) (show gf ≠ gx by omega)).trans (e2 i hi)⟩
          have belN : Below w.heap.size w (w9.setCell ⟨gx, k, none⟩ (.int .i64 (IntKind.i64.wrap (u + v) % 4294967296))) := (below_on hb b9).grown st.2 (below_on hb b9).size (fun i hi => by cases hi; omega)
          refine anyK_one (i := 13) (by kernel_rfl) rfl (fun K hK => ?_)
          go_simp
          refine hK.out _ _ (fun h => by cases h) ?_
          clear hK K
          refine anyK_done (by kernel_rfl) ?_ _
          refine NoPanic.normal ?_
          have stN := st.1
          clear hX hF hb HS b9 b9' hHeld hHeld9 cw9 fz9 st inF cD cS
          generalize w9.setCell ⟨gx, k, none⟩ (.int .i64 (IntKind.i64.wrap (u + v) % 4294967296)) = wc at stN inF2 belN ⊢
          go_wp2
          go_roundw
          case rel => exact ⟨k + 1, by omega, by go_num, stN, inF2, belN⟩
          case measure => simp [intOf]; omega
        · have hk16 : k = 16 := by omega
          have hnl2 : ¬ (k : Int) < 16 := by omega
          rw [hk16] at hX
          have CW := specWordBytes_any (some ⟨gx, 0, none⟩) 16 cx false (sumsL X F 16) wr (by omega) (by rw [sumsL_length F (by omega)]; exact lX) (owns_inI hX)
          rw [HB.out] at CW
          clear hk16
          replace CW : Hid (Calls Tryz.prog 158 _ wr _) := CW
          clear hX hF
          go_wp2_with (fail)
          refine CW.out.mono ?_
          rintro e w8 ⟨p8, c8, rfl, r8, b8⟩
          have hsr := hb.size
          go_wp2
          go_ret
          exact ⟨_, _, rfl, ⟨owns_mono r8.1 hsr, r8.2⟩, below_on hb b8⟩
theorem specBlk_no (p q : Option Addr) (n m c d : Nat) (count : Int) (w : World) (hno : ¬ blkOk n m count) :
    Calls Tryz.prog 115 #[.slice p n c, .int .i64 count, .slice q m d] w fun e w' => ∃ p' c', e = .returned (.slice p' 0 c') ∧ Own 5 w' w.heap.size w'.heap.size (.slice p' 0 c') 0 [] ∧ Below w.heap.size w w' := by
  unfold blkOk at hno
  by_cases h1 : n = 32
  rotate_left
  · have z1 : ((n : Int) != 32) = true := by simp; omega
    go_enter Tryz.func115, Tryz.ntmps115
    go_wp2
    go_ret
    exact ⟨_, _, rfl, .of (World.ownsRow_made w #[] 0 (Nat.le_refl _) (by unfold maxLen; omega) rfl), (Below.refl _ _).alloc (Nat.le_refl _) _⟩
  subst h1
  by_cases h2 : m = 12
  rotate_left
  · have z2 : ((m : Int) != 12) = true := by simp; omega
    go_enter Tryz.func115, Tryz.ntmps115
    go_wp2
    go_ret
    exact ⟨_, _, rfl, .of (World.ownsRow_made w #[] 0 (Nat.le_refl _) (by unfold maxLen; omega) rfl), (Below.refl _ _).alloc (Nat.le_refl _) _⟩
  subst h2
  have hc : ¬ (0 ≤ count ∧ count ≤ 4294967295) := fun e => hno ⟨rfl, rfl, e⟩
  have CI := l1In_is count 0 4294967295 w
  rw [decide_eq_false hc] at CI
  go_enter Tryz.func115, Tryz.ntmps115
  go_wp2_with (fail)
  refine CI.mono ?_
  rintro e w1 ⟨rfl, rfl⟩
  go_wp2
  go_ret
  exact ⟨_, _, rfl, .of (World.ownsRow_made _ #[] 0 (Nat.le_refl _) (by unfold maxLen; omega) rfl), (Below.refl _ _).alloc (Nat.le_refl _) _⟩
theorem specBlk_any (p q : Option Addr) (n m c d : Nat) (count : Int) (ks ns : List Int) (w : World) (hx : ks.length = n) (hy : ns.length = m) (h : BytesIn w p n ks) (h' : BytesIn w q m ns) (hb1 : ∀ x ∈ ks, 0 ≤ x ∧ x < 256) (hb2 : ∀ x ∈ ns, 0 ≤ x ∧ x < 256) :
    Calls Tryz.prog 115 #[.slice p n c, .int .i64 count, .slice q m d] w fun e w' => ∃ p' c', e = .returned (.slice p' (blkN n m count) c') ∧ Own 5 w' w.heap.size w'.heap.size (.slice p' (blkN n m count) c') (blkN n m count) (blkL ks count ns) ∧ Below w.heap.size w w' := by
  unfold blkN blkL
  rw [hx, hy]
  by_cases hok : blkOk n m count
  · rw [if_pos hok, if_pos hok]
    obtain ⟨rfl, rfl, hc⟩ := hok
    exact specBlk_yes p q c d ks ns count w hx hy h h' hb1 hb2 hc
  · rw [if_neg hok, if_neg hok]
    exact specBlk_no p q n m c d count w hok
def strL (l : List Nat) : List Value := l.map fun (n : Nat) => Value.int .u32 (n : Int)
theorem strL_length (l : List Nat) : (strL l).length = l.length := by simp [strL]
theorem strL_get (l : List Nat) (i : Nat) (h : i < l.length) : (strL l)[i]? = some (.int .u32 ((l.getD i 0 : Nat) : Int)) := by simp [strL, List.getElem?_eq_getElem h]
theorem strL_one (l : List Nat) : ∀ v ∈ strL l, v.oneCell' = true := by
  intro v hv
  simp only [strL, List.mem_map] at hv
  obtain ⟨n, _, rfl⟩ := hv
  rfl
def StrIs (w : World) (lo g : Nat) (S : List Nat) : Prop := S.length = 16 ∧ w.ownsRow lo 131 1 (.slice (some ⟨g, 0, none⟩) 16 16) 16 (strL S)
theorem StrIs.cell {w : World} {lo g : Nat} {S : List Nat} (h : StrIs w lo g S) (i : Nat) (hi : i < 16) : w.cell? ⟨g, i, none⟩ = some (.int .u32 ((S.getD i 0 : Nat) : Int)) := by
  rw [h.2.cellAt i (by omega), strL_get _ _ (by have := h.1; omega)]
theorem StrIs.frozen {w : World} {lo g : Nat} {S : List Nat} (h : StrIs w lo g S) (i : Nat) : w.frozen? ⟨g, i, none⟩ = false := h.2.frozenAt i
theorem StrIs.lt {w : World} {lo g : Nat} {S : List Nat} (h : StrIs w lo g S) : lo ≤ g ∧ g < w.heap.size := h.2.lt g rfl
theorem StrIs.below {w w' : World} {lo g : Nat} {S : List Nat} (h : StrIs w lo g S) (hb : Below w.heap.size w w') : StrIs w' lo g S := ⟨h.1, owns_below h.2 hb⟩
theorem StrIs.kept {w w' : World} {lo g r : Nat} {S : List Nat} (h : StrIs w lo g S) (hg : w.grownBy w' (some r)) (hne : g ≠ r) : StrIs w' lo g S :=
  ⟨h.1, h.2.kept hg (.inr (by simp [Value.ownBlock]; exact fun e => hne e))⟩
theorem StrIs.set {w : World} {lo g : Nat} {S : List Nat} (h : StrIs w lo g S) (k u : Nat) : StrIs (w.setCell ⟨g, k, none⟩ (.int .u32 (u : Int))) lo g (S.set k u) ∧ w.grownBy (w.setCell ⟨g, k, none⟩ (.int .u32 (u : Int))) (some g) := by
  have st := h.2.stored k (.int .u32 (u : Int))
  have e : (strL S).set k (.int .u32 (u : Int)) = strL (S.set k u) := by simp [strL, List.map_set]
  rw [e] at st
  exact ⟨⟨by simpa using h.1, st.1⟩, st.2⟩
theorem StrIs.made (w : World) (lo : Nat) (S : List Nat) (h : S.length = 16) (hlo : lo ≤ w.heap.size) : StrIs (w.alloc (.cells (strL S).toArray 131)) lo w.heap.size S := by
  have hl : (strL S).length = 16 := by rw [strL_length, h]
  refine ⟨h, by simpa using hl, .inr ⟨w.heap.size, 16, _, rfl, hlo, heap_alloc_new w _, Nat.le_refl _, by unfold maxLen; omega, by simp [hl], ?_⟩⟩
  rw [List.take_of_length_le (by simp [hl])]
theorem StrIs.range {w : World} {lo g : Nat} {S : List Nat} (h : StrIs w lo g S) : w.rangeAt g 0 (strL S) := by
  intro j v hv
  have hj : j < 16 := by have := (List.getElem?_eq_some_iff.1 hv).1; rw [strL_length, h.1] at this; exact this
  rw [Nat.zero_add, h.2.cellAt j (by omega), hv]
theorem StrIs.there {w : World} {lo g : Nat} {S : List Nat} (h : StrIs w lo g S) : w.there g 0 16 := by
  intro j hj
  rw [Nat.zero_add, h.cell j hj]
  exact ⟨rfl, h.frozen j⟩
theorem strPut {lo e g n c : Nat} (vs : List Value) : ∀ (o : Nat) (w : World) (xs : List Value), o + vs.length = n → xs.length = n → w.ownsRow lo e 1 (.slice (some ⟨g, 0, none⟩) n c) n xs →
    (w.setCells g o vs).ownsRow lo e 1 (.slice (some ⟨g, 0, none⟩) n c) n (xs.take o ++ vs) ∧ w.grownBy (w.setCells g o vs) (some g) := by
  induction vs with
  | nil =>
    intro o w xs h1 h2 h
    rw [List.append_nil, List.take_of_length_le (by simp at h1; omega)]
    exact ⟨h, World.grownBy.refl _ _⟩
  | cons v r ih =>
    intro o w xs h1 h2 h
    have k1 := h.stored o v
    have k2 := ih (o + 1) _ _ (by simp at h1; omega) (by simpa using h2) k1.1
    have e : (xs.set o v).take (o + 1) = xs.take o ++ [v] := by
      rw [List.take_succ_eq_append_getElem (by simp at h1 ⊢; omega), List.take_set_of_le (Nat.le_refl _)]
      simp
    rw [e, List.append_assoc] at k2
    exact ⟨k2.1, grown_trans k1.2 k2.2⟩
theorem StrIs.put {w : World} {lo g : Nat} {S S' : List Nat} (h : StrIs w lo g S) (h' : S'.length = 16) : StrIs (w.setCells g 0 (strL S')) lo g S' ∧ w.grownBy (w.setCells g 0 (strL S')) (some g) := by
  have k := strPut (strL S') 0 w (strL S) (by rw [strL_length]; omega) (by rw [strL_length, h.1]) h.2
  exact ⟨⟨h', by simpa using k.1⟩, k.2⟩
def zero16 : List Nat := List.replicate 16 0
theorem infoStr : (Tryz.prog.info? 131).map (fun i => (i.zero, i.size)) = some (some (.agg (strL zero16).toArray), 16) := by kernel_rfl
def firstN (ks : List Int) (count : Int) (ns : List Int) : List Nat := (firstL ks count ns).map wordN
theorem firstN_length (ks : List Int) (count : Int) (ns : List Int) : (firstN ks count ns).length = 16 := by simp [firstN, firstL_length]
def strFill (T : List Nat) (k : Nat) : List Nat := T.take k ++ List.replicate (16 - k) 0
theorem strFill_set {T : List Nat} (hT : T.length = 16) (k : Nat) (hk : k < 16) (u : Nat) (hu : u = T.getD k 0) : (strFill T k).set k u = strFill T (k + 1) := by
  subst hu
  simp only [strFill]
  have hk0 : k - (T.take k).length = 0 := by simp [hT]; omega
  rw [List.set_append_right _ _ (by rw [List.length_take]; omega), hk0, show 16 - k = (16 - (k + 1)) + 1 by omega, List.replicate_succ, List.set_cons_zero, List.take_succ_eq_append_getElem (by omega), List.append_assoc, List.getD_eq_getElem?_getD, List.getElem?_eq_getElem (by omega)]
  rfl
theorem strFill_get {T : List Nat} (hT : T.length = 16) (k : Nat) (hk : k < 16) : (strFill T k).getD k 0 = 0 := by
  simp only [strFill, List.getD_eq_getElem?_getD]
  rw [List.getElem?_append_right (by simp; omega)]
  simp [hT, Nat.min_eq_left (show k ≤ 16 by omega), show 0 < 16 - k by omega]
set_option maxHeartbeats 2400000 in
theorem newStream_no (p q : Option Addr) (n m c d : Nat) (w : World) (hno : ¬ (n = 32 ∧ m = 12)) :
    Calls Tryz.prog 107 #[.slice p n c, .slice q m d] w fun e w' => e = .returned (.tuple #[.agg (strL zero16).toArray, .bool false]) ∧ Below w.heap.size w w' := by
  have hz := (zero_of_info infoStr).1
  have hsz0 := (zero_of_info infoStr).2
  have m1 := fun X : World => StrIs.made X w.heap.size zero16 rfl
  obtain ⟨Z, hZ⟩ : ∃ Z, Z = (strL zero16).toArray := ⟨_, rfl⟩
  rw [← hZ] at hz
  simp only [← hZ] at m1
  clear hZ
  have hone : ∀ v ∈ strL zero16, v.oneCell' = true := strL_one _
  have hsz : (Tryz.prog.info? 131).map (·.size) = some (strL zero16).length := hsz0
  have hsz2 : (Tryz.prog.info? 131).map (·.size) = some (strL zero16).toArray.size := hsz0
  have hsC : (strL zero16).toArray.size = 16 := rfl
  have ba : Below w.heap.size w (w.alloc (.cells Z 131)) := (Below.refl _ _).alloc (Nat.le_refl _) _
  have sa : (w.alloc (.cells Z 131)).heap.size = w.heap.size + 1 := by simp
  have h3 := m1 (w.alloc (.cells Z 131)) (by omega)
  have bb : Below (w.alloc (.cells Z 131)).heap.size (w.alloc (.cells Z 131)) ((w.alloc (.cells Z 131)).alloc (.cells Z 131)) := (Below.refl _ _).alloc (Nat.le_refl _) _
  rw [sa] at h3
  have h2 := (m1 w (Nat.le_refl _)).below bb
  have bel := below_on ba bb
  have hth2 : ((w.alloc (.cells Z 131)).alloc (.cells Z 131)).there w.heap.size 0 (strL zero16).toArray.size := by rw [hsC]; exact h2.there
  have hra := h3.range
  have hp := h2.put (S' := zero16) rfl
  have hld := run_loadVar_mid (P := Tryz.prog) _ w.heap.size 0 131 _ _ hp.1.range Tryz.underlying131 rfl hsz
  have hbel : Below w.heap.size w (((w.alloc (.cells Z 131)).alloc (.cells Z 131)).setCells w.heap.size 0 (strL zero16)) := bel.grown hp.2 bel.size (fun k hk => by cases hk; exact Nat.le_refl _)
  obtain ⟨Cs, hCs⟩ : ∃ Cs, Cs = strL zero16 := ⟨_, rfl⟩
  rw [← hCs] at hra hsz hsz2 hth2 hbel hld hone
  replace hCs : Hid (Cs = strL zero16) := hCs
  clear hp h2 h3 bel m1 ba sa bb hsC
  by_cases t0 : n = 32
  · have t1 : m ≠ 12 := fun h => hno ⟨t0, h⟩
    subst t0
    have z1 : ((m : Int) != 12) = true := by simp; omega
    clear hno
    go_enter Tryz.func107, Tryz.ntmps107
    go_wp2_with (first | (refine wpList_load_mid rfl 131 _ rfl (w.heap.size + 1) 0 rfl Cs _ hra Tryz.underlying131 rfl hsz ?_) | (refine wpList_store_mid rfl 131 _ _ rfl w.heap.size 0 Cs.toArray rfl rfl hth2 hsz2 (all_oneCell_toArray hone) ?_))
    (try simp only [Exit.inBlock, Exit.then])
    refine bodyPost_ret (v := .tuple #[.agg Cs.toArray, .bool false]) ?_ rfl ⟨by rw [hCs.out], hbel⟩
    simp [results, asAddr, hld]
  · have z0 : ((n : Int) != 32) = true := by simp; omega
    clear hno
    go_enter Tryz.func107, Tryz.ntmps107
    go_wp2_with (first | (refine wpList_load_mid rfl 131 _ rfl (w.heap.size + 1) 0 rfl Cs _ hra Tryz.underlying131 rfl hsz ?_) | (refine wpList_store_mid rfl 131 _ _ rfl w.heap.size 0 Cs.toArray rfl rfl hth2 hsz2 (all_oneCell_toArray hone) ?_))
    (try simp only [Exit.inBlock, Exit.then])
    refine bodyPost_ret (v := .tuple #[.agg Cs.toArray, .bool false]) ?_ rfl ⟨by rw [hCs.out], hbel⟩
    simp [results, asAddr, hld]
set_option maxHeartbeats 4000000 in
theorem newStream_yes (p q : Option Addr) (c d : Nat) (ks ns : List Int) (w : World) (hc : 32 ≤ c) (hd : 12 ≤ d) (hx : ks.length = 32) (hy : ns.length = 12) (h : BytesIn w p 32 ks) (h' : BytesIn w q 12 ns) (hb1 : ∀ x ∈ ks, 0 ≤ x ∧ x < 256) (hb2 : ∀ x ∈ ns, 0 ≤ x ∧ x < 256) :
    Calls Tryz.prog 107 #[.slice p 32 c, .slice q 12 d] w fun e w' => e = .returned (.tuple #[.agg (strL (firstN ks 0 ns)).toArray, .bool true]) ∧ Below w.heap.size w w' := by
  have hz := (zero_of_info infoStr).1
  have hsz0 := (zero_of_info infoStr).2
  have m1 := fun X : World => StrIs.made X w.heap.size zero16 rfl
  obtain ⟨Z, hZ⟩ : ∃ Z, Z = (strL zero16).toArray := ⟨_, rfl⟩
  rw [← hZ] at hz
  simp only [← hZ] at m1
  clear hZ
  have C1 := fun X hX => implWords_any p 32 c false ks X (by omega) hc hx hX hb1
  have C2 := fun X hX => implWords_any q 12 d false ns X (by omega) hd hy hX hb2
  have l1 : (wordsL false ks (32 / 4)).length = 8 := by simp [wordsL]
  have l2 : (wordsL false ns (12 / 4)).length = 3 := by simp [wordsL]
  have HF : Hid ([1634760805, 857760878, 2036477234, 1797285236] ++ wordsL false ks (32 / 4) ++ [0] ++ wordsL false ns (12 / 4) = firstL ks 0 ns) := rfl
  have lF := firstL_length ks 0 ns
  have lT := firstN_length ks 0 ns
  have HT : Hid (∀ k, (firstN ks 0 ns).getD k 0 = wordN ((firstL ks 0 ns).getD k 0)) := fun k => by
    simp only [firstN, List.getD_eq_getElem?_getD, List.getElem?_map]
    cases (firstL ks 0 ns)[k]? <;> rfl
  simp only [Nat.reduceDiv] at C1 C2 l1 l2 HF
  generalize firstN ks 0 ns = T at HT lT ⊢
  generalize firstL ks 0 ns = F at HF HT lF
  generalize wordsL false ks 8 = W1 at C1 l1 HF
  generalize wordsL false ns 3 = W2 at C2 l2 HF
  have hsC : (strL T).toArray.size = 16 := by simp [strL_length, lT]
  have hone : ∀ v ∈ strL T, v.oneCell' = true := strL_one _
  have hsz : (Tryz.prog.info? 131).map (·.size) = some (strL T).length := by rw [strL_length, lT]; exact hsz0
  have hsz2 : (Tryz.prog.info? 131).map (·.size) = some (strL T).toArray.size := by rw [hsC]; exact hsz0
  go_enter Tryz.func107, Tryz.ntmps107
  go_wp2_with (fail)
  have h2 := m1 w (Nat.le_refl _)
  have ba : Below w.heap.size w (w.alloc (.cells Z 131)) := (Below.refl _ _).alloc (Nat.le_refl _) _
  have sa : (w.alloc (.cells Z 131)).heap.size = w.heap.size + 1 := by simp
  generalize w.alloc (.cells Z 131) = wa at h2 ba sa ⊢
  have h3 := m1 wa (by omega)
  have bb : Below wa.heap.size wa (wa.alloc (.cells Z 131)) := (Below.refl _ _).alloc (Nat.le_refl _) _
  have hwbs : (wa.alloc (.cells Z 131)).heap.size = wa.heap.size + 1 := by simp
  generalize wa.alloc (.cells Z 131) = wb at h3 bb hwbs ⊢
  rw [sa] at h3 hwbs
  replace h2 := h2.below bb
  have bel := below_on ba bb
  clear ba bb sa hz m1
  obtain ⟨B3, hB3⟩ : ∃ B3, B3 = w.heap.size + 1 := ⟨_, rfl⟩
  rw [← hB3] at h3 ⊢
  have hne : w.heap.size ≠ B3 := by omega
  have hsb := bel.size
  have hb3 : wb.heap.size = B3 + 1 := by rw [hB3]; exact hwbs
  have hge : w.heap.size ≤ B3 := by omega
  clear hB3 hwbs
  obtain ⟨wc, hwc⟩ : ∃ wc, wc = wb.alloc (.cells #[.int .i64 1634760805, .int .i64 857760878, .int .i64 2036477234, .int .i64 1797285236] 3) := ⟨_, rfl⟩
  have bc : Below wb.heap.size wb wc := by rw [hwc]; exact (Below.refl _ _).alloc (Nat.le_refl _) _
  have hcs : wc.heap.size = B3 + 1 + 1 := by rw [hwc]; simp [hb3]
  have ic : IntsIn wc (some ⟨B3 + 1, 0, none⟩) 4 [1634760805, 857760878, 2036477234, 1797285236] := by
    rw [← hb3, hwc]
    exact owns_inI (base := wb.heap.size) (e := 3) (c := 4) ⟨rfl, .inr ⟨wb.heap.size, 4, _, rfl, Nat.le_refl _, heap_alloc_new wb _, Nat.le_refl _, by unfold maxLen; omega, rfl, rfl⟩⟩
  obtain ⟨wd, hwd⟩ : ∃ wd, wd = wc.alloc (.cells #[.int .i64 0] 3) := ⟨_, rfl⟩
  have bd : Below wc.heap.size wc wd := by rw [hwd]; exact (Below.refl _ _).alloc (Nat.le_refl _) _
  have id : IntsIn wd (some ⟨B3 + 1 + 1, 0, none⟩) 1 [0] := by
    rw [← hcs, hwd]
    exact owns_inI (base := wc.heap.size) (e := 3) (c := 1) ⟨rfl, .inr ⟨wc.heap.size, 1, _, rfl, Nat.le_refl _, heap_alloc_new wc _, Nat.le_refl _, by unfold maxLen; omega, rfl, rfl⟩⟩
  replace ic := in_belowI ic bd
  have bcd := below_on bc bd
  replace h2 := h2.below bcd
  replace h3 := h3.below bcd
  replace bel := below_on bel bcd
  rw [← hwc, ← hwd]
  clear hwc hwd bc bd bcd hcs
  refine (C1 _ (in_below h bel)).mono ?_
  rintro e w5 ⟨p5, c5, rfl, r5, b5⟩
  have i5 := r5.ints
  replace ic := in_belowI ic b5
  replace id := in_belowI id b5
  replace h2 := h2.below b5
  replace h3 := h3.below b5
  replace bel := below_on bel b5
  clear r5 b5 C1
  go_wp2_with (fail)
  refine (C2 _ (in_below h' bel)).mono ?_
  rintro e w6 ⟨p6, c6, rfl, r6, b6⟩
  have i6 := r6.ints
  replace i5 := in_belowI i5 b6
  replace ic := in_belowI ic b6
  replace id := in_belowI id b6
  replace h2 := h2.below b6
  replace h3 := h3.below b6
  replace bel := below_on bel b6
  clear r6 b6 C2
  have CC := concat4I (some ⟨B3 + 1, 0, none⟩) p5 (some ⟨B3 + 1 + 1, 0, none⟩) p6 4 8 1 3 4 c5 1 c6 [1634760805, 857760878, 2036477234, 1797285236] W1 [0] W2 w6 rfl l1 rfl l2 (by omega) (by omega) ic i5 id i6 _ rfl
  rw [HF.out] at CC
  clear ic i5 id i6 l1 l2 HF
  go_wp2_with (fail)
  refine CC.mono ?_
  rintro e w7 ⟨p7, c7, rfl, r7, b7⟩
  have hl3 := h3.lt.2
  have hl2 := h2.lt.2
  replace h2 := h2.below b7
  replace h3 := h3.below b7
  replace bel := below_on bel b7
  obtain ⟨g7, hg7⟩ := owns_at r7.1 (by decide)
  subst hg7
  have hl7 := r7.1.lt g7 rfl
  have hne7 : B3 ≠ g7 := by omega
  have I7 := r7.ints
  obtain ⟨w8, hw8⟩ : ∃ w8, w8 = w7 := ⟨_, rfl⟩
  have HC : Hid (∀ i, i < 16 → w8.cell? ⟨g7, i, none⟩ = some (.int .i64 (F.getD i 0))) := by
    obtain ⟨bb, oo, e1, e2⟩ := I7 (by decide)
    simp only [Option.some.injEq, Addr.mk.injEq, and_true] at e1
    obtain ⟨rfl, rfl⟩ := e1
    intro i hi
    have := e2 i hi
    rw [Nat.zero_add] at this
    rw [hw8]
    exact this
  have hg8 : g7 < w8.heap.size := by rw [hw8]; exact hl7.2
  have hgr0 : w8.grownBy w7 (some B3) := by rw [hw8]; exact World.grownBy.refl _ _
  have bel8 : Below w.heap.size w w8 := by rw [hw8]; exact bel
  have h28 : StrIs w8 w.heap.size w.heap.size zero16 := by rw [hw8]; exact h2
  have h30 : StrIs w7 w.heap.size B3 (strFill T 0) := h3
  have hcap := owns_cap r7.1
  clear CC b7 r7 I7 hl3 hl2 hl7 hw8 bel h2 h3
  go_wp2_with (fail)
  go_loopw [31] (fun i wr => ∃ k : Nat, k ≤ 16 ∧ i = .int .i64 k ∧ StrIs wr w.heap.size B3 (strFill T k) ∧ w8.grownBy wr (some B3))
    (fun i _ => 16 - (intOf i).toNat)
  case atStart => exact ⟨0, by omega, rfl, h30, hgr0⟩
  case round =>
    clear h30 hgr0
    obtain ⟨k, hk, rfl, hH, hgr⟩ := hrel
    by_cases hlt : k < 16
    · have hlt' : (k : Int) < 16 := by omega
      have cy := (cell_grownQ (p := ⟨g7, k, none⟩) hgr hg8 (Ne.symm hne7)).trans (HC.out k hlt)
      have cold := hH.cell k hlt
      rw [strFill_get lT k hlt] at cold
      have hfr := hH.frozen k
      have st := hH.set k (wordN (F.getD k 0))
      rw [strFill_set lT k hlt _ (HT.out k).symm] at st
      have hwe := wordN_eq (F.getD k 0)
      generalize wordN (F.getD k 0) = u at st hwe
      generalize F.getD k 0 = y at cy hwe
      have mu : y % 4294967296 = (u : Int) := hwe.symm
      have wu : IntKind.u32.wrap y = (u : Int) := by rw [IntKind.wrap_u32]; exact mu
      have hgr' := grown_trans hgr st.2
      have st' := st.1
      clear st hH hgr hwe
      go_wp2
      go_roundw
      case rel => exact ⟨k + 1, by omega, by go_num, st', hgr'⟩
      case measure => simp [intOf]; omega
    · have hnl : ¬ (k : Int) < 16 := by omega
      have hfin : strFill T k = T := by simp [strFill, show k = 16 by omega, List.take_of_length_le (show T.length ≤ 16 by omega)]
      rw [hfin] at hH
      clear hfin
      have hra := hH.range
      have hk2 := h28.kept hgr hne
      have hth2 : wr.there w.heap.size 0 (strL T).toArray.size := by rw [hsC]; exact hk2.there
      have hp := hk2.put lT
      have hbel : Below w.heap.size w (wr.setCells w.heap.size 0 (strL T)) := (bel8.grown hgr bel8.size (fun k hk => by cases hk; exact hge)).grown hp.2 (Nat.le_trans bel8.size hgr.size) (fun k hk => by cases hk; exact Nat.le_refl _)
      have hld := run_loadVar_mid (P := Tryz.prog) _ w.heap.size 0 131 _ _ hp.1.range Tryz.underlying131 rfl hsz
      obtain ⟨Cs, hCs⟩ : ∃ Cs, Cs = strL T := ⟨_, rfl⟩
      rw [← hCs] at hra hsz hsz2 hth2 hbel hld hone
      replace hCs : Hid (Cs = strL T) := hCs
      clear hp hk2 hH hgr
      go_wp2_with (first | (refine wpList_load_mid rfl 131 _ rfl B3 0 rfl Cs _ hra Tryz.underlying131 rfl hsz ?_) | (refine wpList_store_mid rfl 131 _ _ rfl w.heap.size 0 Cs.toArray rfl rfl hth2 hsz2 (all_oneCell_toArray hone) ?_))
      (try simp only [Exit.inBlock, Exit.then])
      refine bodyPost_ret (v := .tuple #[.agg Cs.toArray, .bool true]) ?_ rfl ⟨by rw [hCs.out], hbel⟩
      simp [results, asAddr, hld]
end Go.Proofs.YtnpffnhiefgglaaGreatDoor
