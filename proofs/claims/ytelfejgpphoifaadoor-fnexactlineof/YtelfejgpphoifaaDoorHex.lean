/-
  FnExactHex: what spec.Hex and impl.Hex answer; conditions: at most 1048576 bytes.
-/
import Derived.Test.YtelfejgpphoifaaDoorInfo
namespace Go.Proofs.YtelfejgpphoifaaDoor
open Go.RowKit
set_option maxRecDepth 100000

theorem and15 (u : Int) (h : 0 ≤ u) (h' : u < 256) : bits BinOp.and IntKind.u8 u 15 = u % 16 := by
  have all : ∀ n : Fin 256, bits BinOp.and IntKind.u8 ((n.val : Nat) : Int) 15 = ((n.val : Nat) : Int) % 16 := by decide +kernel
  have := all ⟨u.toNat, by omega⟩
  simp only [Int.toNat_of_nonneg h] at this
  exact this

/-- The sign of 16 of a number below 16. -/
def sg (i : Int) : Int := (([48, 49, 50, 51, 52, 53, 54, 55, 56, 57, 97, 98, 99, 100, 101, 102] : List UInt8).getD i.toNat 0).toNat

theorem sg_at (i : Int) (_h0 : 0 ≤ i) (_h1 : i < 16) (pf : i.toNat < (ByteArray.mk #[48, 49, 50, 51, 52, 53, 54, 55, 56, 57, 97, 98, 99, 100, 101, 102]).size) :
    (((ByteArray.mk #[48, 49, 50, 51, 52, 53, 54, 55, 56, 57, 97, 98, 99, 100, 101, 102])[i.toNat]'pf).toNat : Int) = sg i := by
  unfold sg
  rw [List.getD_eq_getElem?_getD, List.getElem?_eq_getElem (by simp; omega)]
  rfl

/-- The signs of bytes. -/
def hexL (xs : List Int) : List Int := xs.flatMap fun u => [sg (u / 16), sg (bits BinOp.and IntKind.u8 u 15)]

theorem hexL_step {xs : List Int} {n k : Nat} {u : Int} (hx : xs.length = n) (hk : k < n) (hu : u = xs.getD k 0) :
    hexL (xs.take k) ++ [sg (u / 16), sg (bits BinOp.and IntKind.u8 u 15)] = hexL (xs.take (k + 1)) := by
  subst hu
  unfold hexL
  rw [List.take_succ_eq_append_getElem (by omega), List.flatMap_append]
  simp [List.getElem?_eq_getElem (show k < xs.length by omega)]

set_option maxHeartbeats 1000000 in
theorem implHex_any (p : Option Addr) (n c : Nat) (xs : List Int) (w : World) (hn : n ≤ 1048576) (hx : xs.length = n) (h : BytesIn w p n xs) (hr : ∀ x ∈ xs, 0 ≤ x ∧ x < 256) :
    Calls Tryd.prog 25 #[.slice p n c] w fun e w' => e = .returned (.string (strOfNums (hexL xs))) ∧ Below w.heap.size w w' := by
  obtain ⟨i0, hi, hz0, hz1, hz2⟩ := info_parts infoByte
  go_enter Tryd.func25, Tryd.ntmps25
  go_wp2_with (at_make; refine wpList_make_own _ rfl _ _ 22 rfl w.heap.size 5 i0 (.int .u8 0) 1 Tryd.underlying22 hi hz0 hz1 _ _ _ (2 * n) rfl rfl ?b1 ?b2 ?b3 ?b4 ?_)
  case b1 => omega
  case b2 => rw [hz2]; omega
  case b3 => unfold maxLen; omega
  case b4 => exact Nat.le_refl _
  intro w1 hown hgrow
  have hbel : Below w.heap.size w w1 := (Below.refl _ _).grown hgrow (Nat.le_refl _) (fun _ h => by cases h)
  clear hgrow
  go_wp2
  go_loopw [3, 12] (fun v i wr => ∃ k : Nat, k ≤ n ∧ i = .int .i64 k ∧ wr.ownsRow w.heap.size 5 1 v (2 * k) ((hexL (xs.take k)).map (Value.int .u8)) ∧ Below w.heap.size w wr)
    (fun _ i _ => n - (intOf i).toNat)
  case atStart => exact ⟨0, Nat.zero_le _, rfl, by simpa [hexL] using hown, hbel⟩
  case round =>
    clear hown hbel
    obtain ⟨k, hk, rfl, hown, hbel⟩ := hrel
    have hsz := hbel.size
    by_cases hlt : k < n
    · obtain ⟨b, o, rfl, hc⟩ := h (by omega)
      obtain ⟨u, hu⟩ : ∃ u, u = xs.getD k 0 := ⟨_, rfl⟩
      have hcx : wr.cell? ⟨b, o + k, none⟩ = some (.int .u8 u) := by
        rw [hbel.cell (p := ⟨b, o + k, none⟩) (World.block_lt_of_cell? w ⟨b, o + k, none⟩ (hc k hlt)), hu]
        exact hc k hlt
      have hu0 : 0 ≤ u ∧ u < 256 := by
        rw [hu]; apply hr
        simp [List.getElem?_eq_getElem (show k < xs.length by omega)]
      obtain ⟨hu1, hu2⟩ := hu0
      have q1 : 0 ≤ u / 16 := by omega
      have q2 : u / 16 < 16 := by omega
      have q3 : 0 ≤ bits BinOp.and IntKind.u8 u 15 := by rw [and15 u hu1 hu2]; omega
      have q4 : bits BinOp.and IntKind.u8 u 15 < 16 := by rw [and15 u hu1 hu2]; omega
      have e1 := sg_at (u / 16) q1 q2
      have e2 := sg_at (bits BinOp.and IntKind.u8 u 15) q3 q4
      have HN : Hid (hexL (xs.take k) ++ [sg (u / 16), sg (bits BinOp.and IntKind.u8 u 15)] = hexL (xs.take (k + 1))) := hexL_step hx hlt hu
      clear hc h hu
      go_wp2
      go_region_law (refine step_pushs hi hz0 hz1 hz2 (.tmp 16) (.tmp 23) 22 Tryd.underlying22 _ [sg (u / 16), sg (bits BinOp.and IntKind.u8 u 15)] (by rfl) (by simp) (by simp) hown (by omega) hsz (by rfl) (by rfl) (by rfl) (by rfl) ?_; intro g cap w1 ho1 hb1; rw [HN.out] at ho1)
      all_goals
        go_wp2
        go_roundw
        case rel => exact ⟨k + 1, by omega, by go_num, ho1, hbel.trans hb1⟩
        case measure => simp [intOf]; omega
    · have hkn : k = n := by omega
      subst hkn
      rw [List.take_of_length_le (by omega)] at hown
      obtain ⟨p', c', hv⟩ := owns_form hown
      subst hv
      have g := text_of (P := Tryd.prog) (owns_in hown) (owns_len hown) c' 22 5 9 Tryd.underlying22 Tryd.underlying5 Tryd.underlying9
      go_wp2
      go_ret
      exact ⟨rfl, hbel⟩

set_option maxHeartbeats 2000000 in
theorem specHex_any (p : Option Addr) (n c : Nat) (xs : List Int) (w : World) (hn : n ≤ 1048576) (hx : xs.length = n) (h : BytesIn w p n xs) (hr : ∀ x ∈ xs, 0 ≤ x ∧ x < 256) :
    Calls Tryd.prog 13 #[.slice p n c] w fun e w' => e = .returned (.string (strOfNums (hexL xs))) ∧ Below w.heap.size w w' := by
  obtain ⟨i0, hi, hz0, hz1, hz2⟩ := info_parts infoByte
  go_enter Tryd.func13, Tryd.ntmps13
  go_wp2
  go_loopw [4, 5] (fun v i wr => ∃ k : Nat, k ≤ n ∧ i = .int .i64 k ∧ wr.ownsRow w.heap.size 5 1 v (2 * k) ((hexL (xs.take k)).map (Value.int .u8)) ∧ Below w.heap.size w wr)
    (fun _ i _ => n - (intOf i).toNat)
  case atStart => exact ⟨0, Nat.zero_le _, rfl, World.ownsRow_made w #[] 0 (Nat.le_refl _) (by unfold maxLen; omega) rfl, (Below.refl _ _).alloc (Nat.le_refl _) _⟩
  case round =>
    obtain ⟨k, hk, rfl, hown, hbel⟩ := hrel
    have hsz := hbel.size
    by_cases hlt : k < n
    · obtain ⟨b, o, rfl, hc⟩ := h (by omega)
      obtain ⟨u, hu⟩ : ∃ u, u = xs.getD k 0 := ⟨_, rfl⟩
      have hcx : wr.cell? ⟨b, o + k, none⟩ = some (.int .u8 u) := by
        rw [hbel.cell (p := ⟨b, o + k, none⟩) (World.block_lt_of_cell? w ⟨b, o + k, none⟩ (hc k hlt)), hu]
        exact hc k hlt
      have hu0 : 0 ≤ u ∧ u < 256 := by
        rw [hu]; apply hr
        simp [List.getElem?_eq_getElem (show k < xs.length by omega)]
      obtain ⟨hu1, hu2⟩ := hu0
      have q1 : 0 ≤ u / 16 := by omega
      have q2 : u / 16 < 16 := by omega
      have q3 : 0 ≤ bits BinOp.and IntKind.u8 u 15 := by rw [and15 u hu1 hu2]; omega
      have q4 : bits BinOp.and IntKind.u8 u 15 < 16 := by rw [and15 u hu1 hu2]; omega
      have e1 := sg_at (u / 16) q1 q2
      have e2 := sg_at (bits BinOp.and IntKind.u8 u 15) q3 q4
      have HN : Hid (hexL (xs.take k) ++ [sg (u / 16), sg (bits BinOp.and IntKind.u8 u 15)] = hexL (xs.take (k + 1))) := hexL_step hx hlt hu
      clear hc h hu
      go_wp2
      go_region_law (refine step_pushs hi hz0 hz1 hz2 (.tmp 13) (.tmp 28) 22 Tryd.underlying22 _ [sg (u / 16), sg (bits BinOp.and IntKind.u8 u 15)] (by rfl) (by simp) (by simp) hown (by omega) hsz (by rfl) (by rfl) (by rfl) (by rfl) ?_; intro g cap w1 ho1 hb1; rw [HN.out] at ho1)
      all_goals
        go_wp2
        go_roundw
        case rel => exact ⟨k + 1, by omega, by go_num, ho1, hbel.trans hb1⟩
        case measure => simp [intOf]; omega
    · have hkn : k = n := by omega
      subst hkn
      rw [List.take_of_length_le (by omega)] at hown
      obtain ⟨p', c', hv⟩ := owns_form hown
      subst hv
      have g := text_of (P := Tryd.prog) (owns_in hown) (owns_len hown) c' 22 5 9 Tryd.underlying22 Tryd.underlying5 Tryd.underlying9
      go_wp2
      go_ret
      exact ⟨rfl, hbel⟩

end Go.Proofs.YtelfejgpphoifaaDoor
