/-
  What spec.Words and impl.Words answer.
-/
import Derived.Test.YtelfejgpphoifaaDoorReadWord
import Derived.Test.YtelfejgpphoifaaDoorInfoI
import Derived.Laws.Cover3
import Derived.Deep.RegionHeld3
namespace Go.Proofs.YtelfejgpphoifaaDoor
open Go.RowKit
set_option maxRecDepth 100000

/-- The i-th four of bytes as a number. -/
def wordAt (great : Bool) (xs : List Int) (i : Nat) : Int :=
  let x (j : Nat) := (xs.getD (4 * i + j) 0).toNat
  if great = true then (four (x 0) (x 1) (x 2) (x 3) : Nat) else (four (x 3) (x 2) (x 1) (x 0) : Nat)
def wordsL (great : Bool) (xs : List Int) (k : Nat) : List Int := (List.range k).map (wordAt great xs)
theorem wordsL_length (great : Bool) (xs : List Int) (k : Nat) : (wordsL great xs k).length = k := by simp [wordsL]
theorem wordsL_step (great : Bool) (xs : List Int) (k : Nat) : wordsL great xs k ++ [wordAt great xs k] = wordsL great xs (k + 1) := by simp [wordsL, List.range_succ]

theorem or_four (x0 x1 x2 x3 : Nat) (h0 : x0 < 256) (h1 : x1 < 256) (h2 : x2 < 256) (h3 : x3 < 256) :
    bits .or .i64 (bits .or .i64 (bits .or .i64 ((x0 : Int) * 16777216) ((x1 : Int) * 65536)) ((x2 : Int) * 256)) (x3 : Int) = ((four x0 x1 x2 x3 : Nat) : Int) := by
  have a1 : ((x0 : Int) * 16777216) = ((2 ^ 24 * x0 : Nat) : Int) := by omega
  have a2 : ((x1 : Int) * 65536) = ((2 ^ 16 * x1 : Nat) : Int) := by omega
  have a3 : ((x2 : Int) * 256) = ((2 ^ 8 * x2 : Nat) : Int) := by omega
  rw [a1, a2, a3, i64_or _ _ (by omega) (by omega), ← Nat.two_pow_add_eq_or_of_lt (show 2 ^ 16 * x1 < 2 ^ 24 by omega), i64_or _ _ (by omega) (by omega)]
  rw [show 2 ^ 24 * x0 + 2 ^ 16 * x1 = 2 ^ 16 * (2 ^ 8 * x0 + x1) by omega, ← Nat.two_pow_add_eq_or_of_lt (show 2 ^ 8 * x2 < 2 ^ 16 by omega), i64_or _ _ (by omega) (by omega)]
  rw [show 2 ^ 16 * (2 ^ 8 * x0 + x1) + 2 ^ 8 * x2 = 2 ^ 8 * (2 ^ 8 * (2 ^ 8 * x0 + x1) + x2) by omega, ← Nat.two_pow_add_eq_or_of_lt (show x3 < 2 ^ 8 by omega)]
  unfold four
  omega

theorem or_fourW (x0 x1 x2 x3 : Nat) (h0 : x0 < 256) (h1 : x1 < 256) (h2 : x2 < 256) (h3 : x3 < 256) :
    bits .or .i64 (bits .or .i64 (bits .or .i64 (IntKind.i64.wrap (IntKind.i64.wrap (x0 : Int) * 16777216)) (IntKind.i64.wrap (IntKind.i64.wrap (x1 : Int) * 65536))) (IntKind.i64.wrap (IntKind.i64.wrap (x2 : Int) * 256))) (IntKind.i64.wrap (x3 : Int)) = ((four x0 x1 x2 x3 : Nat) : Int) := by
  have e : ∀ z : Int, 0 ≤ z → z < 9223372036854775808 → IntKind.i64.wrap z = z := fun z _ _ => by rw [IntKind.wrap_i64]; omega
  rw [e (x0 : Int) (by omega) (by omega), e (x1 : Int) (by omega) (by omega), e (x2 : Int) (by omega) (by omega), e (x3 : Int) (by omega) (by omega), e _ (by omega) (by omega), e _ (by omega) (by omega), e _ (by omega) (by omega)]
  exact or_four x0 x1 x2 x3 h0 h1 h2 h3

set_option maxHeartbeats 4000000 in
theorem specWords_any (p : Option Addr) (n c : Nat) (great : Bool) (xs : List Int) (w : World) (hn : n ≤ 1099511627776) (hx : xs.length = n) (h : BytesIn w p n xs) (hb : ∀ x ∈ xs, 0 ≤ x ∧ x < 256) :
    Calls Tryd.prog 12 #[.slice p n c, .bool great] w fun e w' => ∃ p' c', e = .returned (.slice p' (n / 4) c') ∧ OwnI 3 w' w.heap.size w'.heap.size (.slice p' (n / 4) c') (n / 4) (wordsL great xs (n / 4)) ∧ Below w.heap.size w w' := by
  obtain ⟨i0, hi, hz0, hz1, hz2⟩ := info_parts infoInt
  go_enter Tryd.func12, Tryd.ntmps12
  go_wp2
  go_loopw [5, 6] (fun v i wr => ∃ k : Nat, 4 * k ≤ n ∧ i = .int .i64 ((4 * k : Nat) : Int) ∧ wr.ownsRow w.heap.size 3 1 v k ((wordsL great xs k).map (Value.int .i64)) ∧ Below w.heap.size w wr)
    (fun _ i _ => n + 4 - (intOf i).toNat)
  case atStart => exact ⟨0, by omega, rfl, World.ownsRow_made w #[] 0 (Nat.le_refl _) (by unfold maxLen; omega) rfl, (Below.refl _ _).alloc (Nat.le_refl _) _⟩
  case round =>
    obtain ⟨k, hk, rfl, hown, hbel⟩ := hrel
    have hsz := hbel.size
    by_cases hlt : 4 * k + 3 < n
    · obtain ⟨b, o, rfl, hcell⟩ := h (by omega)
      have cell : ∀ j, j < 4 → ∃ z : Nat, z < 256 ∧ wr.cell? ⟨b, o + (4 * k + j), none⟩ = some (.int .u8 (z : Int)) ∧ xs.getD (4 * k + j) 0 = (z : Int) := by
        intro j hj
        have hbyte : 0 ≤ xs.getD (4 * k + j) 0 ∧ xs.getD (4 * k + j) 0 < 256 := by
          refine hb _ ?_
          simp [List.getElem?_eq_getElem (show 4 * k + j < xs.length by omega)]
        refine ⟨(xs.getD (4 * k + j) 0).toNat, by omega, ?_, by omega⟩
        rw [hbel.cell (p := ⟨b, o + (4 * k + j), none⟩) (World.block_lt_of_cell? w ⟨b, o + (4 * k + j), none⟩ (hcell _ (by omega))), hcell _ (by omega), Int.toNat_of_nonneg hbyte.1]
      obtain ⟨z0, h0, c0, e0⟩ := cell 0 (by omega)
      obtain ⟨z1, h1, c1, e1⟩ := cell 1 (by omega)
      obtain ⟨z2, h2, c2, e2⟩ := cell 2 (by omega)
      obtain ⟨z3, h3, c3, e3⟩ := cell 3 (by omega)
      have HN : Hid (wordsL great xs k ++ [if great = true then ((four z0 z1 z2 z3 : Nat) : Int) else ((four z3 z2 z1 z0 : Nat) : Int)] = wordsL great xs (k + 1)) := by
        rw [Hid, ← wordsL_step great xs k]
        simp only [wordAt, e0, e1, e2, e3, Int.toNat_natCast]
      have h00 := hcell 0 (by omega)
      simp only [Nat.add_zero] at h00
      clear cell e0 e1 e2 e3 hcell h hb
      simp only [Nat.add_zero] at c0
      have hblt : b < w.heap.size := World.block_lt_of_cell? w ⟨b, o, none⟩ h00
      obtain ⟨j, hj⟩ : ∃ j, 4 * k = j := ⟨_, rfl⟩
      rw [hj] at c0 c1 c2 c3 hlt ⊢
      have l0 : j < n := by omega
      obtain ⟨j1, hj1⟩ : ∃ j1, j + 1 = j1 := ⟨_, rfl⟩
      obtain ⟨j2, hj2⟩ : ∃ j2, j + 2 = j2 := ⟨_, rfl⟩
      obtain ⟨j3, hj3⟩ : ∃ j3, j + 3 = j3 := ⟨_, rfl⟩
      rw [hj1] at c1
      rw [hj2] at c2
      rw [hj3] at c3
      have l1 : j1 < n := by omega
      have l2 : j2 < n := by omega
      have l3 : j3 < n := by omega
      have v1 : IntKind.i64.wrap ((j : Int) + 1) = (j1 : Int) := by rw [IntKind.wrap_i64]; omega
      have v2 : IntKind.i64.wrap ((j : Int) + 2) = (j2 : Int) := by rw [IntKind.wrap_i64]; omega
      have v3 : IntKind.i64.wrap ((j : Int) + 3) = (j3 : Int) := by rw [IntKind.wrap_i64]; omega
      have HK : ∀ w', Below w.heap.size wr w' → w'.cell? ⟨b, o + j, none⟩ = some (.int .u8 (z0 : Int)) ∧ w'.cell? ⟨b, o + j1, none⟩ = some (.int .u8 (z1 : Int)) ∧ w'.cell? ⟨b, o + j2, none⟩ = some (.int .u8 (z2 : Int)) ∧ w'.cell? ⟨b, o + j3, none⟩ = some (.int .u8 (z3 : Int)) := fun w' hB => ⟨(hB.cell (p := ⟨b, o + j, none⟩) hblt).trans c0, (hB.cell (p := ⟨b, o + j1, none⟩) hblt).trans c1, (hB.cell (p := ⟨b, o + j2, none⟩) hblt).trans c2, (hB.cell (p := ⟨b, o + j3, none⟩) hblt).trans c3⟩
      cases great
      all_goals simp only [if_true, Bool.false_eq_true, if_false] at HN
      · have HO := or_fourW z3 z2 z1 z0 h3 h2 h1 h0
        go_wp2
        go_region_held3 (fun w' => w'.cell? ⟨b, o + j, none⟩ = some (.int .u8 (z0 : Int)) ∧ w'.cell? ⟨b, o + j1, none⟩ = some (.int .u8 (z1 : Int)) ∧ w'.cell? ⟨b, o + j2, none⟩ = some (.int .u8 (z2 : Int)) ∧ w'.cell? ⟨b, o + j3, none⟩ = some (.int .u8 (z3 : Int))) (first | exact HK _ (Below.refl _ _) | exact HK _ (Below.refl _ _).drew | exact HK _ ((Below.refl _ _).drew.alloc hsz _) | exact HK _ ((Below.refl _ _).alloc hsz _) | exact HK _ hb1 | exact HK _ hb1.drew) (first | (refine step_pushI hi hz0 hz1 hz2 (.tmp 48) (.tmp 78) 33 Tryd.underlying33 _ hown (by omega) hsz (by rfl) (by rfl) (by rfl) (by rfl) ?_; intro g cap w1 ho1 hb1))
        rw [HN.out] at ho1
        go_wp2
        go_roundw
        case rel => exact ⟨k + 1, by omega, by go_num, ho1, hbel.trans hb1⟩
        case measure => simp [intOf]; omega
      · have HO := or_fourW z0 z1 z2 z3 h0 h1 h2 h3
        go_wp2
        go_region_held3 (fun w' => w'.cell? ⟨b, o + j, none⟩ = some (.int .u8 (z0 : Int)) ∧ w'.cell? ⟨b, o + j1, none⟩ = some (.int .u8 (z1 : Int)) ∧ w'.cell? ⟨b, o + j2, none⟩ = some (.int .u8 (z2 : Int)) ∧ w'.cell? ⟨b, o + j3, none⟩ = some (.int .u8 (z3 : Int))) (first | exact HK _ (Below.refl _ _) | exact HK _ (Below.refl _ _).drew | exact HK _ ((Below.refl _ _).drew.alloc hsz _) | exact HK _ ((Below.refl _ _).alloc hsz _) | exact HK _ hb1 | exact HK _ hb1.drew) (first | (refine step_pushI hi hz0 hz1 hz2 (.tmp 16) (.tmp 46) 33 Tryd.underlying33 _ hown (by omega) hsz (by rfl) (by rfl) (by rfl) (by rfl) ?_; intro g cap w1 ho1 hb1))
        rw [HN.out] at ho1
        go_wp2
        go_roundw
        case rel => exact ⟨k + 1, by omega, by go_num, ho1, hbel.trans hb1⟩
        case measure => simp [intOf]; omega
    · have hkn : n / 4 = k := by omega
      obtain ⟨p', c', hv⟩ := owns_form hown
      subst hv
      obtain ⟨j, hj⟩ : ∃ j, 4 * k = j := ⟨_, rfl⟩
      rw [hj] at hlt ⊢
      clear h hb
      go_wp2
      go_ret
      rw [hkn]
      exact ⟨_, _, rfl, .of hown, hbel⟩

end Go.Proofs.YtelfejgpphoifaaDoor
