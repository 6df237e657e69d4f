/-
  What spec.WordBytes and impl.WordBytes answer, whatever ints they are given: each one's word as four bytes, great or little; condition: at most 2^30 ints.
-/
import Derived.Test.YtdjdanpicbaieaaDoorWord
import Derived.Test.YtdjdanpicbaieaaDoorInfoI
import Derived.Test.YtdjdanpicbaieaaDoorGreat
namespace Go.Proofs.YtdjdanpicbaieaaDoor
open Go.RowKit
set_option maxRecDepth 100000

/-- A number's word as four bytes. -/
def fourL (great : Bool) (n : Int) : List Int := if great = true then (littleL (n % 4294967296) 4).reverse else littleL (n % 4294967296) 4
theorem fourL_length (great : Bool) (n : Int) : (fourL great n).length = 4 := by unfold fourL; split <;> simp [littleL_length]
def bytesL (great : Bool) (xs : List Int) : List Int := xs.flatMap (fourL great)
theorem bytesL_length (great : Bool) (xs : List Int) : (bytesL great xs).length = 4 * xs.length := by
  induction xs with
  | nil => rfl
  | cons x xs ih => simp only [bytesL, List.flatMap_cons, List.length_append, fourL_length, List.length_cons] at ih ⊢; omega
theorem bytesL_step (great : Bool) (xs : List Int) (k : Nat) (hk : k < xs.length) : bytesL great (xs.take k) ++ fourL great (xs.getD k 0) = bytesL great (xs.take (k + 1)) := by
  rw [List.take_succ_eq_append_getElem hk]
  simp only [bytesL, List.flatMap_append, List.flatMap_cons, List.flatMap_nil, List.append_nil, List.getD_eq_getElem?_getD, List.getElem?_eq_getElem hk, Option.getD_some]

theorem implLittle4 (n : Int) (w : World) :
    Calls Tryd.prog 84 #[.int .i64 (n % 4294967296), .int .i64 4] w fun e w' => ∃ p c, e = .returned (.slice p 4 c) ∧ Own 5 w' w.heap.size w'.heap.size (.slice p 4 c) 4 (fourL false n) ∧ Below w.heap.size w w' :=
  implLittle_yes (n % 4294967296) 4 w (by omega) (by omega) (by omega) (by omega)
theorem specLittle4 (n : Int) (w : World) :
    Calls Tryd.prog 51 #[.int .i64 (n % 4294967296), .int .i64 4] w fun e w' => ∃ p c, e = .returned (.slice p 4 c) ∧ Own 5 w' w.heap.size w'.heap.size (.slice p 4 c) 4 (fourL false n) ∧ Below w.heap.size w w' :=
  specLittle_yes (n % 4294967296) 4 w (by omega) (by omega) (by omega) (by omega)
theorem fit4 (n : Int) : fitN (n % 4294967296) 4 = 4 ∧ fitL (n % 4294967296) 4 = littleL (n % 4294967296) 4 := by
  have h : fitN (n % 4294967296) 4 = 4 := fit_yes ⟨by omega, by omega, by omega⟩
  exact ⟨h, by unfold fitL; rw [h]⟩
theorem implGreat4 (n : Int) (w : World) :
    Calls Tryd.prog 60 #[.int .i64 (n % 4294967296), .int .i64 4] w fun e w' => ∃ p c, e = .returned (.slice p 4 c) ∧ Own 5 w' w.heap.size w'.heap.size (.slice p 4 c) 4 (fourL true n) ∧ Below w.heap.size w w' := by
  have h := implGreat_any (n % 4294967296) 4 w (by omega)
  rw [(fit4 n).1, (fit4 n).2] at h
  exact h
theorem specGreat4 (n : Int) (w : World) :
    Calls Tryd.prog 31 #[.int .i64 (n % 4294967296), .int .i64 4] w fun e w' => ∃ p c, e = .returned (.slice p 4 c) ∧ Own 5 w' w.heap.size w'.heap.size (.slice p 4 c) 4 (fourL true n) ∧ Below w.heap.size w w' := by
  have h := specGreat_any (n % 4294967296) 4 w (by omega)
  rw [(fit4 n).1, (fit4 n).2] at h
  exact h

set_option maxHeartbeats 2000000 in
theorem implBytesLittle_any (p : Option Addr) (n c : Nat) (xs : List Int) (w : World) (hn : n ≤ 1073741824) (hx : xs.length = n) (h : IntsIn w p n xs) :
    Calls Tryd.prog 105 #[.slice p n c, .bool false] w fun e w' => ∃ p' c', e = .returned (.slice p' (4 * n) c') ∧ Own 5 w' w.heap.size w'.heap.size (.slice p' (4 * n) c') (4 * n) (bytesL false xs) ∧ Below w.heap.size w w' := by
  obtain ⟨i0, hi, hz0, hz1, hz2⟩ := info_parts infoByte
  go_enter Tryd.func105, Tryd.ntmps105
  go_wp2_with (at_make; refine wpList_make_own _ rfl _ _ 22 rfl w.heap.size 5 i0 (.int .u8 0) 1 Tryd.underlying22 hi hz0 hz1 _ _ _ (4 * n) rfl rfl (by simp) (by rw [hz2]; omega) (by unfold maxLen; omega) (Nat.le_refl _) ?_)
  intro w1 hown hgrow
  have hbel : Below w.heap.size w w1 := (Below.refl _ _).grown hgrow (Nat.le_refl _) (fun _ h => by cases h)
  clear hgrow
  go_wp2
  go_loopw [6, 16] (fun v i wr => ∃ k : Nat, k ≤ n ∧ i = .int .i64 k ∧ wr.ownsRow w.heap.size 5 1 v (4 * k) ((bytesL false (xs.take k)).map (Value.int .u8)) ∧ Below w.heap.size w wr)
    (fun _ i _ => n - (intOf i).toNat)
  case atStart => exact ⟨0, Nat.zero_le _, rfl, by simpa [bytesL] using hown, hbel⟩
  case round =>
    clear hown hbel
    obtain ⟨k, hk, rfl, hown, hbel⟩ := hrel
    by_cases hlt : k < n
    · obtain ⟨b, o, rfl, hcell⟩ := h (by omega)
      have HN : Hid (bytesL false (xs.take k) ++ fourL false (xs.getD k 0) = bytesL false (xs.take (k + 1))) := bytesL_step _ _ _ (by omega)
      have hc := hcell k hlt
      have c0 : wr.cell? ⟨b, o + k, none⟩ = some (.int .i64 (xs.getD k 0)) := by
        rw [hbel.cell (p := ⟨b, o + k, none⟩) (World.block_lt_of_cell? w ⟨b, o + k, none⟩ hc)]
        exact hc
      clear hc hcell h
      generalize xs.getD k 0 = u at HN c0
      go_wp2_with (fail)
      refine (implWord_same u _).mono ?_
      rintro e w2 ⟨rfl, rfl⟩
      go_wp2_with (fail)
      refine (implLittle4 u _).mono ?_
      rintro e w2 ⟨q, d, rfl, r2, b2⟩
      replace hown := owns_below hown b2
      replace hbel := below_on hbel b2
      have hsz := hbel.size
      have hl4 := fourL_length false u
      have hin := r2.bytes
      clear r2 b2 c0
      generalize fourL false u = ys at HN hl4 hin
      go_wp2_with (at_builtin; refine list_spread hi hz0 hz1 hz2 (.tmp 20) (.tmp 24) 22 Tryd.underlying22 hown hin hl4 (by omega) (by omega) (by omega) hsz (by rfl) (by rfl) (by rfl) (by rfl) ?_; intro g cap w3 ho3 _ hb3; rw [HN.out] at ho3)
      go_roundw
      case rel => exact ⟨k + 1, by omega, by go_num, ho3, hbel.trans hb3⟩
      case measure => simp [intOf]; omega
    · have hkn : k = n := by omega
      subst hkn
      obtain ⟨p', c', hv⟩ := owns_form hown
      subst hv
      rw [List.take_of_length_le (by omega)] at hown
      clear h
      go_wp2
      go_ret
      exact ⟨_, _, rfl, .of hown, hbel⟩

set_option maxHeartbeats 2000000 in
theorem implBytesGreat_any (p : Option Addr) (n c : Nat) (xs : List Int) (w : World) (hn : n ≤ 1073741824) (hx : xs.length = n) (h : IntsIn w p n xs) :
    Calls Tryd.prog 105 #[.slice p n c, .bool true] w fun e w' => ∃ p' c', e = .returned (.slice p' (4 * n) c') ∧ Own 5 w' w.heap.size w'.heap.size (.slice p' (4 * n) c') (4 * n) (bytesL true xs) ∧ Below w.heap.size w w' := by
  obtain ⟨i0, hi, hz0, hz1, hz2⟩ := info_parts infoByte
  go_enter Tryd.func105, Tryd.ntmps105
  go_wp2_with (at_make; refine wpList_make_own _ rfl _ _ 22 rfl w.heap.size 5 i0 (.int .u8 0) 1 Tryd.underlying22 hi hz0 hz1 _ _ _ (4 * n) rfl rfl (by simp) (by rw [hz2]; omega) (by unfold maxLen; omega) (Nat.le_refl _) ?_)
  intro w1 hown hgrow
  have hbel : Below w.heap.size w w1 := (Below.refl _ _).grown hgrow (Nat.le_refl _) (fun _ h => by cases h)
  clear hgrow
  go_wp2
  go_loopw [6, 16] (fun v i wr => ∃ k : Nat, k ≤ n ∧ i = .int .i64 k ∧ wr.ownsRow w.heap.size 5 1 v (4 * k) ((bytesL true (xs.take k)).map (Value.int .u8)) ∧ Below w.heap.size w wr)
    (fun _ i _ => n - (intOf i).toNat)
  case atStart => exact ⟨0, Nat.zero_le _, rfl, by simpa [bytesL] using hown, hbel⟩
  case round =>
    clear hown hbel
    obtain ⟨k, hk, rfl, hown, hbel⟩ := hrel
    by_cases hlt : k < n
    · obtain ⟨b, o, rfl, hcell⟩ := h (by omega)
      have HN : Hid (bytesL true (xs.take k) ++ fourL true (xs.getD k 0) = bytesL true (xs.take (k + 1))) := bytesL_step _ _ _ (by omega)
      have hc := hcell k hlt
      have c0 : wr.cell? ⟨b, o + k, none⟩ = some (.int .i64 (xs.getD k 0)) := by
        rw [hbel.cell (p := ⟨b, o + k, none⟩) (World.block_lt_of_cell? w ⟨b, o + k, none⟩ hc)]
        exact hc
      clear hc hcell h
      generalize xs.getD k 0 = u at HN c0
      go_wp2_with (fail)
      refine (implWord_same u _).mono ?_
      rintro e w2 ⟨rfl, rfl⟩
      go_wp2_with (fail)
      refine (implGreat4 u _).mono ?_
      rintro e w2 ⟨q, d, rfl, r2, b2⟩
      replace hown := owns_below hown b2
      replace hbel := below_on hbel b2
      have hsz := hbel.size
      have hl4 := fourL_length true u
      have hin := r2.bytes
      clear r2 b2 c0
      generalize fourL true u = ys at HN hl4 hin
      go_wp2_with (at_builtin; refine list_spread hi hz0 hz1 hz2 (.tmp 20) (.tmp 24) 22 Tryd.underlying22 hown hin hl4 (by omega) (by omega) (by omega) hsz (by rfl) (by rfl) (by rfl) (by rfl) ?_; intro g cap w3 ho3 _ hb3; rw [HN.out] at ho3)
      go_roundw
      case rel => exact ⟨k + 1, by omega, by go_num, ho3, hbel.trans hb3⟩
      case measure => simp [intOf]; omega
    · have hkn : k = n := by omega
      subst hkn
      obtain ⟨p', c', hv⟩ := owns_form hown
      subst hv
      rw [List.take_of_length_le (by omega)] at hown
      clear h
      go_wp2
      go_ret
      exact ⟨_, _, rfl, .of hown, hbel⟩

set_option maxHeartbeats 2000000 in
theorem specBytesLittle_any (p : Option Addr) (n c : Nat) (xs : List Int) (w : World) (hn : n ≤ 1073741824) (hx : xs.length = n) (h : IntsIn w p n xs) :
    Calls Tryd.prog 75 #[.slice p n c, .bool false] w fun e w' => ∃ p' c', e = .returned (.slice p' (4 * n) c') ∧ Own 5 w' w.heap.size w'.heap.size (.slice p' (4 * n) c') (4 * n) (bytesL false xs) ∧ Below w.heap.size w w' := by
  obtain ⟨i0, hi, hz0, hz1, hz2⟩ := info_parts infoByte
  go_enter Tryd.func75, Tryd.ntmps75
  go_wp2
  go_loopw [5, 6] (fun v i wr => ∃ k : Nat, k ≤ n ∧ i = .int .i64 k ∧ wr.ownsRow w.heap.size 5 1 v (4 * k) ((bytesL false (xs.take k)).map (Value.int .u8)) ∧ Below w.heap.size w wr)
    (fun _ i _ => n - (intOf i).toNat)
  case atStart => exact ⟨0, Nat.zero_le _, rfl, World.ownsRow_made w #[] 0 (Nat.le_refl _) (by unfold maxLen; omega) rfl, (Below.refl _ _).alloc (Nat.le_refl _) _⟩
  case round =>
    obtain ⟨k, hk, rfl, hown, hbel⟩ := hrel
    by_cases hlt : k < n
    · obtain ⟨b, o, rfl, hcell⟩ := h (by omega)
      have HN : Hid (bytesL false (xs.take k) ++ fourL false (xs.getD k 0) = bytesL false (xs.take (k + 1))) := bytesL_step _ _ _ (by omega)
      have hc := hcell k hlt
      have c0 : wr.cell? ⟨b, o + k, none⟩ = some (.int .i64 (xs.getD k 0)) := by
        rw [hbel.cell (p := ⟨b, o + k, none⟩) (World.block_lt_of_cell? w ⟨b, o + k, none⟩ hc)]
        exact hc
      clear hc hcell h
      generalize xs.getD k 0 = u at HN c0
      go_wp2_with (fail)
      refine (specWord_same u _).mono ?_
      rintro e w2 ⟨rfl, rfl⟩
      go_wp2_with (fail)
      refine (specLittle4 u _).mono ?_
      rintro e w2 ⟨q, d, rfl, r2, b2⟩
      replace hown := owns_below hown b2
      replace hbel := below_on hbel b2
      have hsz := hbel.size
      have hl4 := fourL_length false u
      have hin := r2.bytes
      clear r2 b2 c0
      generalize fourL false u = ys at HN hl4 hin
      go_wp2_with (at_builtin; refine list_spread hi hz0 hz1 hz2 (.tmp 23) (.tmp 29) 22 Tryd.underlying22 hown hin hl4 (by omega) (by omega) (by omega) hsz (by rfl) (by rfl) (by rfl) (by rfl) ?_; intro g cap w3 ho3 _ hb3; rw [HN.out] at ho3)
      go_roundw
      case rel => exact ⟨k + 1, by omega, by go_num, ho3, hbel.trans hb3⟩
      case measure => simp [intOf]; omega
    · have hkn : k = n := by omega
      subst hkn
      obtain ⟨p', c', hv⟩ := owns_form hown
      subst hv
      rw [List.take_of_length_le (by omega)] at hown
      clear h
      go_wp2
      go_ret
      exact ⟨_, _, rfl, .of hown, hbel⟩

set_option maxHeartbeats 2000000 in
theorem specBytesGreat_any (p : Option Addr) (n c : Nat) (xs : List Int) (w : World) (hn : n ≤ 1073741824) (hx : xs.length = n) (h : IntsIn w p n xs) :
    Calls Tryd.prog 75 #[.slice p n c, .bool true] w fun e w' => ∃ p' c', e = .returned (.slice p' (4 * n) c') ∧ Own 5 w' w.heap.size w'.heap.size (.slice p' (4 * n) c') (4 * n) (bytesL true xs) ∧ Below w.heap.size w w' := by
  obtain ⟨i0, hi, hz0, hz1, hz2⟩ := info_parts infoByte
  go_enter Tryd.func75, Tryd.ntmps75
  go_wp2
  go_loopw [5, 6] (fun v i wr => ∃ k : Nat, k ≤ n ∧ i = .int .i64 k ∧ wr.ownsRow w.heap.size 5 1 v (4 * k) ((bytesL true (xs.take k)).map (Value.int .u8)) ∧ Below w.heap.size w wr)
    (fun _ i _ => n - (intOf i).toNat)
  case atStart => exact ⟨0, Nat.zero_le _, rfl, World.ownsRow_made w #[] 0 (Nat.le_refl _) (by unfold maxLen; omega) rfl, (Below.refl _ _).alloc (Nat.le_refl _) _⟩
  case round =>
    obtain ⟨k, hk, rfl, hown, hbel⟩ := hrel
    by_cases hlt : k < n
    · obtain ⟨b, o, rfl, hcell⟩ := h (by omega)
      have HN : Hid (bytesL true (xs.take k) ++ fourL true (xs.getD k 0) = bytesL true (xs.take (k + 1))) := bytesL_step _ _ _ (by omega)
      have hc := hcell k hlt
      have c0 : wr.cell? ⟨b, o + k, none⟩ = some (.int .i64 (xs.getD k 0)) := by
        rw [hbel.cell (p := ⟨b, o + k, none⟩) (World.block_lt_of_cell? w ⟨b, o + k, none⟩ hc)]
        exact hc
      clear hc hcell h
      generalize xs.getD k 0 = u at HN c0
      go_wp2_with (fail)
      refine (specWord_same u _).mono ?_
      rintro e w2 ⟨rfl, rfl⟩
      go_wp2_with (fail)
      refine (specGreat4 u _).mono ?_
      rintro e w2 ⟨q, d, rfl, r2, b2⟩
      replace hown := owns_below hown b2
      replace hbel := below_on hbel b2
      have hsz := hbel.size
      have hl4 := fourL_length true u
      have hin := r2.bytes
      clear r2 b2 c0
      generalize fourL true u = ys at HN hl4 hin
      go_wp2_with (at_builtin; refine list_spread hi hz0 hz1 hz2 (.tmp 15) (.tmp 21) 22 Tryd.underlying22 hown hin hl4 (by omega) (by omega) (by omega) hsz (by rfl) (by rfl) (by rfl) (by rfl) ?_; intro g cap w3 ho3 _ hb3; rw [HN.out] at ho3)
      go_roundw
      case rel => exact ⟨k + 1, by omega, by go_num, ho3, hbel.trans hb3⟩
      case measure => simp [intOf]; omega
    · have hkn : k = n := by omega
      subst hkn
      obtain ⟨p', c', hv⟩ := owns_form hown
      subst hv
      rw [List.take_of_length_le (by omega)] at hown
      clear h
      go_wp2
      go_ret
      exact ⟨_, _, rfl, .of hown, hbel⟩

theorem implWordBytes_any (p : Option Addr) (n c : Nat) (great : Bool) (xs : List Int) (w : World) (hn : n ≤ 1073741824) (hx : xs.length = n) (h : IntsIn w p n xs) :
    Calls Tryd.prog 105 #[.slice p n c, .bool great] w fun e w' => ∃ p' c', e = .returned (.slice p' (4 * n) c') ∧ Own 5 w' w.heap.size w'.heap.size (.slice p' (4 * n) c') (4 * n) (bytesL great xs) ∧ Below w.heap.size w w' := by
  cases great
  · exact implBytesLittle_any p n c xs w hn hx h
  · exact implBytesGreat_any p n c xs w hn hx h

theorem specWordBytes_any (p : Option Addr) (n c : Nat) (great : Bool) (xs : List Int) (w : World) (hn : n ≤ 1073741824) (hx : xs.length = n) (h : IntsIn w p n xs) :
    Calls Tryd.prog 75 #[.slice p n c, .bool great] w fun e w' => ∃ p' c', e = .returned (.slice p' (4 * n) c') ∧ Own 5 w' w.heap.size w'.heap.size (.slice p' (4 * n) c') (4 * n) (bytesL great xs) ∧ Below w.heap.size w w' := by
  cases great
  · exact specBytesLittle_any p n c xs w hn hx h
  · exact specBytesGreat_any p n c xs w hn hx h

end Go.Proofs.YtdjdanpicbaieaaDoor
