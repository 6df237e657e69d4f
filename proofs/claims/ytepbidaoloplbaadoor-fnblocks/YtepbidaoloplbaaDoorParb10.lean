/-
  What spec.Words and impl.Words answer.
  What spec.Little and impl.Little answer at every argument; no condition but that n is an int.
  What spec.Great and impl.Great answer at every argument; no condition but that n is an int.
  What spec.WordBytes and impl.WordBytes answer, whatever ints they are given: each one's word as four bytes, great or little; condition: at most 2^30 ints.
  Plain laws of lists for a block of a stream: rounds of columns and of diagonals, sums with what was first.
  A program with one more function: it answers whether each byte of a slice is from 0 to 255.
-/
import Derived.Test.YtepbidaoloplbaaDoorParb09
import Derived.Laws.Cover3
import Derived.Deep.RegionHeld3
import Derived.Test.YtepbidaoloplbaaDoorParb08
namespace Go.Proofs.YtepbidaoloplbaaDoor
open Go.RowKit
set_option maxRecDepth 100000

/-- The i-th four of bytes as a number. -/
def wordAt (great : Bool) (xs : List Int) (i : Nat) : Int :=
  let x (j : Nat) := (xs.getD (4 * i + j) 0).toNat
  if great = true then (four (x 0) (x 1) (x 2) (x 3) : Nat) else (four (x 3) (x 2) (x 1) (x 0) : Nat)
def wordsL (great : Bool) (xs : List Int) (k : Nat) : List Int := (List.range k).map (wordAt great xs)
theorem wordsL_step (great : Bool) (xs : List Int) (k : Nat) : wordsL great xs k ++ [wordAt great xs k] = wordsL great xs (k + 1) := by simp [wordsL, List.range_succ]

theorem readWord_any (great : Bool) (w : World) (x0 x1 x2 x3 : Int) (h0 : 0 ≤ x0 ∧ x0 < 256) (h1 : 0 ≤ x1 ∧ x1 < 256) (h2 : 0 ≤ x2 ∧ x2 < 256) (h3 : 0 ≤ x3 ∧ x3 < 256) :
    Calls Tryd.prog 56 #[.agg #[.int .u8 x0, .int .u8 x1, .int .u8 x2, .int .u8 x3], .bool great] w fun e w' =>
      e = .returned (.int .i64 (if great = true then (four x0.toNat x1.toNat x2.toNat x3.toNat : Nat) else (four x3.toNat x2.toNat x1.toNat x0.toNat : Nat))) ∧ Below w.heap.size w w' := by
  obtain ⟨y0, rfl⟩ : ∃ y : Nat, x0 = y := ⟨x0.toNat, by omega⟩
  obtain ⟨y1, rfl⟩ : ∃ y : Nat, x1 = y := ⟨x1.toNat, by omega⟩
  obtain ⟨y2, rfl⟩ : ∃ y : Nat, x2 = y := ⟨x2.toNat, by omega⟩
  obtain ⟨y3, rfl⟩ : ∃ y : Nat, x3 = y := ⟨x3.toNat, by omega⟩
  cases great
  · simpa using readLittle_any w y0 y1 y2 y3 (by omega) (by omega) (by omega) (by omega)
  · simpa using readGreat_any w y0 y1 y2 y3 (by omega) (by omega) (by omega) (by omega)

set_option maxHeartbeats 2000000 in
theorem implWords_any (p : Option Addr) (n c : Nat) (great : Bool) (xs : List Int) (w : World) (hn : n ≤ 1099511627776) (hc : n ≤ c) (hx : xs.length = n) (h : BytesIn w p n xs) (hb : ∀ x ∈ xs, 0 ≤ x ∧ x < 256) :
    Calls Tryd.prog 50 #[.slice p n c, .bool great] w fun e w' => ∃ p' c', e = .returned (.slice p' (n / 4) c') ∧ OwnI 3 w' w.heap.size w'.heap.size (.slice p' (n / 4) c') (n / 4) (wordsL great xs (n / 4)) ∧ Below w.heap.size w w' := by
  obtain ⟨i0, hi, hz0, hz1, hz2⟩ := info_parts infoInt
  have hq : wrap64 ((n : Int) / 4) = ((n / 4 : Nat) : Int) := by unfold wrap64; omega
  go_enter Tryd.func50, Tryd.ntmps50
  go_wp2_with (at_make; refine wpList_make_own _ rfl _ _ 32 rfl w.heap.size 3 i0 (.int .i64 0) 1 Tryd.underlying32 hi hz0 hz1 _ _ _ (n / 4) rfl rfl (by first | rfl | exact hq) (by rw [hz2]; omega) (by unfold maxLen; omega) (Nat.le_refl _) ?_)
  intro w1 hown hgrow
  have hbel : Below w.heap.size w w1 := (Below.refl _ _).grown hgrow (Nat.le_refl _) (fun _ h => by cases h)
  clear hgrow hq
  go_wp2
  go_loopw [0, 5] (fun s v wr => ∃ (k : Nat) (q : Option Addr) (cc : Nat), 4 * k ≤ n ∧ s = .slice q (n - 4 * k) cc ∧ n - 4 * k ≤ cc ∧ BytesIn w q (n - 4 * k) (xs.drop (4 * k)) ∧ wr.ownsRow w.heap.size 3 1 v k ((wordsL great xs k).map (Value.int .i64)) ∧ Below w.heap.size w wr)
    (fun s _ _ => match s with | .slice _ m _ => m | _ => 0)
  case atStart => exact ⟨0, p, c, by omega, rfl, by omega, by simpa using h, by simpa [wordsL] using hown, hbel⟩
  case round =>
    clear hown hbel
    obtain ⟨k, q, cc, hk, rfl, hcc, hin, hown, hbel⟩ := hrel
    by_cases hlt : 4 ≤ n - 4 * k
    · obtain ⟨b, o, rfl, hcell⟩ := hin (by omega)
      have hsz := hbel.size
      have cell : ∀ j, j < 4 → wr.cell? ⟨b, o + j, none⟩ = some (.int .u8 (xs.getD (4 * k + j) 0)) := by
        intro j hj
        rw [hbel.cell (p := ⟨b, o + j, none⟩) (World.block_lt_of_cell? w ⟨b, o + j, none⟩ (hcell j (by omega))), hcell j (by omega)]
        simp [List.getD]
      have byte : ∀ j, j < 4 → 0 ≤ xs.getD (4 * k + j) 0 ∧ xs.getD (4 * k + j) 0 < 256 := by
        intro j hj
        refine hb _ ?_
        simp [List.getElem?_eq_getElem (show 4 * k + j < xs.length by omega)]
      have c0 := cell 0 (by omega)
      have c1 := cell 1 (by omega)
      have c2 := cell 2 (by omega)
      have c3 := cell 3 (by omega)
      have b0 := byte 0 (by omega)
      have b1 := byte 1 (by omega)
      have b2 := byte 2 (by omega)
      have b3 := byte 3 (by omega)
      have HW : Hid ((if great = true then ((four (xs.getD (4 * k + 0) 0).toNat (xs.getD (4 * k + 1) 0).toNat (xs.getD (4 * k + 2) 0).toNat (xs.getD (4 * k + 3) 0).toNat : Nat) : Int) else (four (xs.getD (4 * k + 3) 0).toNat (xs.getD (4 * k + 2) 0).toNat (xs.getD (4 * k + 1) 0).toNat (xs.getD (4 * k + 0) 0).toNat : Nat)) = wordAt great xs k) := rfl
      generalize xs.getD (4 * k + 0) 0 = y0 at c0 b0 HW
      generalize xs.getD (4 * k + 1) 0 = y1 at c1 b1 HW
      generalize xs.getD (4 * k + 2) 0 = y2 at c2 b2 HW
      generalize xs.getD (4 * k + 3) 0 = y3 at c3 b3 HW
      have hnext : Hid (∀ q, (0 < n - 4 * (k + 1) → q = some ⟨b, o + 4, none⟩) → BytesIn w q (n - 4 * (k + 1)) (xs.drop (4 * (k + 1)))) := by
        intro q hq hp
        refine ⟨b, o + 4, hq hp, fun i hi => ?_⟩
        rw [show o + 4 + i = o + (4 + i) by omega, hcell (4 + i) (by omega)]
        simp [List.getD]
        rw [show 4 * k + (4 + i) = 4 * (k + 1) + i by omega]
      clear cell byte hcell hin
      obtain ⟨m, hm⟩ : ∃ m, n - 4 * k = m := ⟨_, rfl⟩
      rw [hm] at hlt hcc ⊢
      simp only [Nat.add_zero] at c0
      have hat : ∀ w, (Instr.arrayAt 78 (.slice (some ⟨b, o, none⟩) m cc)).run Tryd.prog w = .ok (.pointer (some ⟨b, o, none⟩)) w := fun w => run_arrayAt w 78 _ 4 _ m cc Tryd.underlying78 hlt
      go_wp2_with (fail)
      refine (readWord_any great _ y0 y1 y2 y3 b0 b1 b2 b3).mono ?_
      rintro e w2 ⟨rfl, hb2⟩
      rw [HW.out]
      have HN : Hid (wordsL great xs k ++ [wordAt great xs k] = wordsL great xs (k + 1)) := wordsL_step great xs k
      clear HW c0 c1 c2 c3 b0 b1 b2 b3
      generalize wordAt great xs k = u at HN ⊢
      replace hown := owns_below hown hb2
      replace hbel := below_on hbel hb2
      clear hb2 hsz
      have hsz := hbel.size
      go_wp2_with (at_builtin; refine list_pushI hi hz0 hz1 hz2 (.tmp 15) (.tmp 21) 32 Tryd.underlying32 _ hown (by omega) hsz (by rfl) (by rfl) (by rfl) (by rfl) ?_; intro g cap w1 ho1 hb1; rw [HN.out] at ho1)
      go_roundw
      case rel => exact ⟨k + 1, _, _, by omega, by rw [show n - 4 * (k + 1) = m - 4 by omega], by omega, hnext.out _ (fun hp => if_neg (by omega)), ho1, hbel.trans hb1⟩
      case measure => show m - 4 < m; omega
    · have hkn : n / 4 = k := by omega
      rw [hkn]
      obtain ⟨p', c', hv⟩ := owns_form hown
      subst hv
      obtain ⟨m, hm⟩ : ∃ m, n - 4 * k = m := ⟨_, rfl⟩
      rw [hm] at hlt hcc ⊢
      clear hin
      go_wp2
      go_ret
      rw [hkn]
      exact ⟨_, _, rfl, .of hown, hbel⟩

theorem or_four (x0 x1 x2 x3 : Nat) (h0 : x0 < 256) (h1 : x1 < 256) (h2 : x2 < 256) (h3 : x3 < 256) :
    bits .or .i64 (bits .or .i64 (bits .or .i64 ((x0 : Int) * 16777216) ((x1 : Int) * 65536)) ((x2 : Int) * 256)) (x3 : Int) = ((four x0 x1 x2 x3 : Nat) : Int) := by
  have a1 : ((x0 : Int) * 16777216) = ((2 ^ 24 * x0 : Nat) : Int) := by omega
  have a2 : ((x1 : Int) * 65536) = ((2 ^ 16 * x1 : Nat) : Int) := by omega
  have a3 : ((x2 : Int) * 256) = ((2 ^ 8 * x2 : Nat) : Int) := by omega
  rw [a1, a2, a3, i64_or _ _ (by omega) (by omega), ← Nat.two_pow_add_eq_or_of_lt (show 2 ^ 16 * x1 < 2 ^ 24 by omega), i64_or _ _ (by omega) (by omega)]
  rw [show 2 ^ 24 * x0 + 2 ^ 16 * x1 = 2 ^ 16 * (2 ^ 8 * x0 + x1) by omega, ← Nat.two_pow_add_eq_or_of_lt (show 2 ^ 8 * x2 < 2 ^ 16 by omega), i64_or _ _ (by omega) (by omega)]
  rw [show 2 ^ 16 * (2 ^ 8 * x0 + x1) + 2 ^ 8 * x2 = 2 ^ 8 * (2 ^ 8 * (2 ^ 8 * x0 + x1) + x2) by omega, ← Nat.two_pow_add_eq_or_of_lt (show x3 < 2 ^ 8 by omega)]
  unfold four
  omega

theorem or_fourW (x0 x1 x2 x3 : Nat) (h0 : x0 < 256) (h1 : x1 < 256) (h2 : x2 < 256) (h3 : x3 < 256) :
    bits .or .i64 (bits .or .i64 (bits .or .i64 (IntKind.i64.wrap (IntKind.i64.wrap (x0 : Int) * 16777216)) (IntKind.i64.wrap (IntKind.i64.wrap (x1 : Int) * 65536))) (IntKind.i64.wrap (IntKind.i64.wrap (x2 : Int) * 256))) (IntKind.i64.wrap (x3 : Int)) = ((four x0 x1 x2 x3 : Nat) : Int) := by
  have e : ∀ z : Int, 0 ≤ z → z < 9223372036854775808 → IntKind.i64.wrap z = z := fun z _ _ => by rw [IntKind.wrap_i64]; omega
  rw [e (x0 : Int) (by omega) (by omega), e (x1 : Int) (by omega) (by omega), e (x2 : Int) (by omega) (by omega), e (x3 : Int) (by omega) (by omega), e _ (by omega) (by omega), e _ (by omega) (by omega), e _ (by omega) (by omega)]
  exact or_four x0 x1 x2 x3 h0 h1 h2 h3

set_option maxHeartbeats 4000000 in
theorem specWords_any (p : Option Addr) (n c : Nat) (great : Bool) (xs : List Int) (w : World) (hn : n ≤ 1099511627776) (hx : xs.length = n) (h : BytesIn w p n xs) (hb : ∀ x ∈ xs, 0 ≤ x ∧ x < 256) :
    Calls Tryd.prog 36 #[.slice p n c, .bool great] w fun e w' => ∃ p' c', e = .returned (.slice p' (n / 4) c') ∧ OwnI 3 w' w.heap.size w'.heap.size (.slice p' (n / 4) c') (n / 4) (wordsL great xs (n / 4)) ∧ Below w.heap.size w w' := by
  obtain ⟨i0, hi, hz0, hz1, hz2⟩ := info_parts infoInt
  go_enter Tryd.func36, Tryd.ntmps36
  go_wp2
  go_loopw [5, 6] (fun v i wr => ∃ k : Nat, 4 * k ≤ n ∧ i = .int .i64 ((4 * k : Nat) : Int) ∧ wr.ownsRow w.heap.size 3 1 v k ((wordsL great xs k).map (Value.int .i64)) ∧ Below w.heap.size w wr)
    (fun _ i _ => n + 4 - (intOf i).toNat)
  case atStart => exact ⟨0, by omega, rfl, World.ownsRow_made w #[] 0 (Nat.le_refl _) (by unfold maxLen; omega) rfl, (Below.refl _ _).alloc (Nat.le_refl _) _⟩
  case round =>
    obtain ⟨k, hk, rfl, hown, hbel⟩ := hrel
    have hsz := hbel.size
    by_cases hlt : 4 * k + 3 < n
    · obtain ⟨b, o, rfl, hcell⟩ := h (by omega)
      have cell : ∀ j, j < 4 → ∃ z : Nat, z < 256 ∧ wr.cell? ⟨b, o + (4 * k + j), none⟩ = some (.int .u8 (z : Int)) ∧ xs.getD (4 * k + j) 0 = (z : Int) := by
        intro j hj
        have hbyte : 0 ≤ xs.getD (4 * k + j) 0 ∧ xs.getD (4 * k + j) 0 < 256 := by
          refine hb _ ?_
          simp [List.getElem?_eq_getElem (show 4 * k + j < xs.length by omega)]
        refine ⟨(xs.getD (4 * k + j) 0).toNat, by omega, ?_, by omega⟩
        rw [hbel.cell (p := ⟨b, o + (4 * k + j), none⟩) (World.block_lt_of_cell? w ⟨b, o + (4 * k + j), none⟩ (hcell _ (by omega))), hcell _ (by omega), Int.toNat_of_nonneg hbyte.1]
      obtain ⟨z0, h0, c0, e0⟩ := cell 0 (by omega)
      obtain ⟨z1, h1, c1, e1⟩ := cell 1 (by omega)
      obtain ⟨z2, h2, c2, e2⟩ := cell 2 (by omega)
      obtain ⟨z3, h3, c3, e3⟩ := cell 3 (by omega)
      have HN : Hid (wordsL great xs k ++ [if great = true then ((four z0 z1 z2 z3 : Nat) : Int) else ((four z3 z2 z1 z0 : Nat) : Int)] = wordsL great xs (k + 1)) := by
        rw [Hid, ← wordsL_step great xs k]
        simp only [wordAt, e0, e1, e2, e3, Int.toNat_natCast]
      have h00 := hcell 0 (by omega)
      simp only [Nat.add_zero] at h00
      clear cell e0 e1 e2 e3 hcell h hb
      simp only [Nat.add_zero] at c0
      have hblt : b < w.heap.size := World.block_lt_of_cell? w ⟨b, o, none⟩ h00
      obtain ⟨j, hj⟩ : ∃ j, 4 * k = j := ⟨_, rfl⟩
      rw [hj] at c0 c1 c2 c3 hlt ⊢
      have l0 : j < n := by omega
      obtain ⟨j1, hj1⟩ : ∃ j1, j + 1 = j1 := ⟨_, rfl⟩
      obtain ⟨j2, hj2⟩ : ∃ j2, j + 2 = j2 := ⟨_, rfl⟩
      obtain ⟨j3, hj3⟩ : ∃ j3, j + 3 = j3 := ⟨_, rfl⟩
      rw [hj1] at c1
      rw [hj2] at c2
      rw [hj3] at c3
      have l1 : j1 < n := by omega
      have l2 : j2 < n := by omega
      have l3 : j3 < n := by omega
      have v1 : IntKind.i64.wrap ((j : Int) + 1) = (j1 : Int) := by rw [IntKind.wrap_i64]; omega
      have v2 : IntKind.i64.wrap ((j : Int) + 2) = (j2 : Int) := by rw [IntKind.wrap_i64]; omega
      have v3 : IntKind.i64.wrap ((j : Int) + 3) = (j3 : Int) := by rw [IntKind.wrap_i64]; omega
      have HK : ∀ w', Below w.heap.size wr w' → w'.cell? ⟨b, o + j, none⟩ = some (.int .u8 (z0 : Int)) ∧ w'.cell? ⟨b, o + j1, none⟩ = some (.int .u8 (z1 : Int)) ∧ w'.cell? ⟨b, o + j2, none⟩ = some (.int .u8 (z2 : Int)) ∧ w'.cell? ⟨b, o + j3, none⟩ = some (.int .u8 (z3 : Int)) := fun w' hB => ⟨(hB.cell (p := ⟨b, o + j, none⟩) hblt).trans c0, (hB.cell (p := ⟨b, o + j1, none⟩) hblt).trans c1, (hB.cell (p := ⟨b, o + j2, none⟩) hblt).trans c2, (hB.cell (p := ⟨b, o + j3, none⟩) hblt).trans c3⟩
      cases great
      all_goals simp only [if_true, Bool.false_eq_true, if_false] at HN
      · have HO := or_fourW z3 z2 z1 z0 h3 h2 h1 h0
        go_wp2
        go_region_held3 (fun w' => w'.cell? ⟨b, o + j, none⟩ = some (.int .u8 (z0 : Int)) ∧ w'.cell? ⟨b, o + j1, none⟩ = some (.int .u8 (z1 : Int)) ∧ w'.cell? ⟨b, o + j2, none⟩ = some (.int .u8 (z2 : Int)) ∧ w'.cell? ⟨b, o + j3, none⟩ = some (.int .u8 (z3 : Int))) (first | exact HK _ (Below.refl _ _) | exact HK _ (Below.refl _ _).drew | exact HK _ ((Below.refl _ _).drew.alloc hsz _) | exact HK _ ((Below.refl _ _).alloc hsz _) | exact HK _ hb1 | exact HK _ hb1.drew) (first | (refine step_pushI hi hz0 hz1 hz2 (.tmp 48) (.tmp 78) 32 Tryd.underlying32 _ hown (by omega) hsz (by rfl) (by rfl) (by rfl) (by rfl) ?_; intro g cap w1 ho1 hb1))
        rw [HN.out] at ho1
        go_wp2
        go_roundw
        case rel => exact ⟨k + 1, by omega, by go_num, ho1, hbel.trans hb1⟩
        case measure => simp [intOf]; omega
      · have HO := or_fourW z0 z1 z2 z3 h0 h1 h2 h3
        go_wp2
        go_region_held3 (fun w' => w'.cell? ⟨b, o + j, none⟩ = some (.int .u8 (z0 : Int)) ∧ w'.cell? ⟨b, o + j1, none⟩ = some (.int .u8 (z1 : Int)) ∧ w'.cell? ⟨b, o + j2, none⟩ = some (.int .u8 (z2 : Int)) ∧ w'.cell? ⟨b, o + j3, none⟩ = some (.int .u8 (z3 : Int))) (first | exact HK _ (Below.refl _ _) | exact HK _ (Below.refl _ _).drew | exact HK _ ((Below.refl _ _).drew.alloc hsz _) | exact HK _ ((Below.refl _ _).alloc hsz _) | exact HK _ hb1 | exact HK _ hb1.drew) (first | (refine step_pushI hi hz0 hz1 hz2 (.tmp 16) (.tmp 46) 32 Tryd.underlying32 _ hown (by omega) hsz (by rfl) (by rfl) (by rfl) (by rfl) ?_; intro g cap w1 ho1 hb1))
        rw [HN.out] at ho1
        go_wp2
        go_roundw
        case rel => exact ⟨k + 1, by omega, by go_num, ho1, hbel.trans hb1⟩
        case measure => simp [intOf]; omega
    · have hkn : n / 4 = k := by omega
      obtain ⟨p', c', hv⟩ := owns_form hown
      subst hv
      obtain ⟨j, hj⟩ : ∃ j, 4 * k = j := ⟨_, rfl⟩
      rw [hj] at hlt ⊢
      clear h hb
      go_wp2
      go_ret
      rw [hkn]
      exact ⟨_, _, rfl, .of hown, hbel⟩

end Go.Proofs.YtepbidaoloplbaaDoor

namespace Go.Proofs.YtepbidaoloplbaaDoor
open Go.RowKit

theorem i64_andB (a b : Int) (h1 : 0 ≤ a) (h2 : a ≤ 9223372036854775807) (h3 : 0 ≤ b) (h4 : b ≤ 9223372036854775807) : bits .and .i64 a b = ((a.toNat &&& b.toNat : Nat) : Int) := by
  have ea : (BitVec.ofInt 64 a).toNat = a.toNat := by rw [BitVec.toNat_ofInt]; omega
  have eb : (BitVec.ofInt 64 b).toNat = b.toNat := by rw [BitVec.toNat_ofInt]; omega
  have hle : a.toNat &&& b.toNat ≤ a.toNat := Nat.and_le_left
  have : (BitVec.ofInt 64 a &&& BitVec.ofInt 64 b).toNat = a.toNat &&& b.toNat := by rw [BitVec.toNat_and, ea, eb]
  show IntKind.i64.wrap ((BitVec.ofInt 64 a &&& BitVec.ofInt 64 b).toNat : Int) = _
  rw [this, IntKind.wrap_i64]
  omega

theorem i64_mask255 (a : Int) (h1 : 0 ≤ a) (h2 : a ≤ 9223372036854775807) : bits .and .i64 a 255 = a % 256 := by
  rw [i64_andB a 255 h1 h2 (by decide) (by decide)]
  show (((a.toNat &&& 255 : Nat)) : Int) = a % 256
  rw [nat_mask8]
  omega

/-- n as so many bytes, the low ones first. -/
def littleL (n : Int) (k : Nat) : List Int := (List.range k).map fun (i : Nat) => n / (256 ^ i : Nat) % 256
theorem littleL_length (n : Int) (k : Nat) : (littleL n k).length = k := by simp [littleL]
theorem littleL_step (n : Int) (k : Nat) (q u : Int) (hq : q = n / (256 ^ k : Nat)) (hu : u = q % 256) : littleL n k ++ [u] = littleL n (k + 1) := by
  subst hq hu
  simp [littleL, List.range_succ]
theorem littleL_next (n : Int) (k : Nat) : n / ((256 ^ k : Nat) : Int) / 256 = n / ((256 ^ (k + 1) : Nat) : Int) := by
  rw [Int.ediv_ediv_of_nonneg (Int.natCast_nonneg _), Nat.pow_succ]
  simp
theorem littleL_getD (n : Int) (m k : Nat) (h : k < m) : (littleL n m).getD k 0 = n / ((256 ^ k : Nat) : Int) % 256 := by simp [littleL, h]

theorem two_eight (k : Nat) : (2 : Int) ^ (8 * k) = ((256 ^ k : Nat) : Int) := by
  have e : (2 ^ (8 * k) : Nat) = 256 ^ k := by rw [Nat.pow_mul]
  rw [← e, Int.natCast_pow]
  rfl

def fitB (n many : Int) : Bool := decide (0 ≤ n ∧ 1 ≤ many ∧ many ≤ 8)
def fitN (n many : Int) : Nat := if fitB n many = true then many.toNat else 0
def fitL (n many : Int) : List Int := littleL n (fitN n many)
theorem fit_no {n many : Int} (h : ¬ (0 ≤ n ∧ 1 ≤ many ∧ many ≤ 8)) : fitN n many = 0 ∧ fitL n many = [] := by
  have : fitN n many = 0 := by simp only [fitN, fitB, decide_eq_true_eq]; rw [if_neg h]
  exact ⟨this, by simp [fitL, this, littleL]⟩
theorem fit_yes {n many : Int} (h : 0 ≤ n ∧ 1 ≤ many ∧ many ≤ 8) : fitN n many = many.toNat := by
  simp only [fitN, fitB, decide_eq_true_eq]; rw [if_pos h]
theorem fitN_le (n many : Int) : fitN n many ≤ 8 := by
  unfold fitN fitB; split <;> simp_all <;> omega

set_option maxHeartbeats 1000000 in
theorem specLittle_no (n many : Int) (w : World) (h : ¬ (0 ≤ n ∧ 1 ≤ many ∧ many ≤ 8)) :
    Calls Tryd.prog 53 #[.int .i64 n, .int .i64 many] w fun e w' => ∃ p c, e = .returned (.slice p 0 c) ∧ Own 5 w' w.heap.size w'.heap.size (.slice p 0 c) 0 [] ∧ Below w.heap.size w w' := by
  by_cases h0 : n < 0
  · clear h
    go_enter Tryd.func53, Tryd.ntmps53
    go_wp2
    go_ret
    exact ⟨_, _, rfl, .of (World.ownsRow_made _ #[] 0 (Nat.le_refl _) (by unfold maxLen; omega) rfl), (Below.refl _ _).alloc (Nat.le_refl _) _⟩
  · by_cases h1 : 1 ≤ many
    · have h2 : ¬ many ≤ 8 := fun h3 => h ⟨by omega, h1, h3⟩
      clear h
      go_enter Tryd.func53, Tryd.ntmps53
      go_wp2
      go_ret
      exact ⟨_, _, rfl, .of (World.ownsRow_made _ #[] 0 (Nat.le_refl _) (by unfold maxLen; omega) rfl), (Below.refl _ _).alloc (Nat.le_refl _) _⟩
    · clear h
      go_enter Tryd.func53, Tryd.ntmps53
      go_wp2
      go_ret
      exact ⟨_, _, rfl, .of (World.ownsRow_made _ #[] 0 (Nat.le_refl _) (by unfold maxLen; omega) rfl), (Below.refl _ _).alloc (Nat.le_refl _) _⟩

set_option maxHeartbeats 1000000 in
theorem specLittle_yes (n : Int) (m : Nat) (w : World) (h0 : 0 ≤ n) (h63 : n ≤ 9223372036854775807) (h1 : 1 ≤ m) (h2 : m ≤ 8) :
    Calls Tryd.prog 53 #[.int .i64 n, .int .i64 m] w fun e w' => ∃ p c, e = .returned (.slice p m c) ∧ Own 5 w' w.heap.size w'.heap.size (.slice p m c) m (littleL n m) ∧ Below w.heap.size w w' := by
  obtain ⟨i0, hi, hz0, hz1, hz2⟩ := info_parts infoByte
  have c0 : ¬ n < 0 := by omega
  have c1 : (1 : Int) ≤ (m : Int) := by omega
  have c2 : (m : Int) ≤ 8 := by omega
  go_enter Tryd.func53, Tryd.ntmps53
  go_wp2
  go_loopw [0, 5, 6] (fun q v i wr => ∃ (k : Nat) (r : Int), k ≤ m ∧ i = .int .i64 k ∧ q = .int .i64 r ∧ 0 ≤ r ∧ r ≤ 9223372036854775807 ∧ Hid (r = n / ((256 ^ k : Nat) : Int)) ∧ wr.ownsRow w.heap.size 5 1 v k ((littleL n k).map (Value.int .u8)) ∧ Below w.heap.size w wr)
    (fun _ _ i _ => m - (intOf i).toNat)
  case atStart => exact ⟨0, n, Nat.zero_le _, rfl, rfl, h0, h63, by simp [Hid], World.ownsRow_made w #[] 0 (Nat.le_refl _) (by unfold maxLen; omega) rfl, (Below.refl _ _).alloc (Nat.le_refl _) _⟩
  case round =>
    obtain ⟨k, r, hk, rfl, rfl, hr0, hr1, hr, hown, hbel⟩ := hrel
    have hsz := hbel.size
    by_cases hlt : k < m
    · have hm := i64_mask255 r hr0 hr1
      have HN : Hid (littleL n k ++ [r % 256] = littleL n (k + 1)) := littleL_step n k r _ hr.out rfl
      have hr' : Hid (r / 256 = n / ((256 ^ (k + 1) : Nat) : Int)) := by rw [hr.out]; exact littleL_next n k
      go_wp2_with (at_builtin; refine list_push hi hz0 hz1 hz2 (.tmp 21) (.tmp 25) 22 Tryd.underlying22 _ hown (by omega) hsz (by rfl) (by rfl) (by rfl) (by rfl) ?_; intro g cap w1 ho1 hb1; rw [HN.out] at ho1)
      go_roundw
      case rel => exact ⟨k + 1, r / 256, by omega, by go_num, rfl, by omega, by omega, hr', ho1, hbel.trans hb1⟩
      case measure => simp [intOf]; omega
    · have hkn : k = m := by omega
      subst hkn
      clear hr
      obtain ⟨p', c', hv⟩ := owns_form hown
      subst hv
      go_wp2
      go_ret
      exact ⟨_, _, rfl, .of hown, hbel⟩

set_option maxHeartbeats 1000000 in
theorem implLittle_no (n many : Int) (w : World) (h : ¬ (0 ≤ n ∧ 1 ≤ many ∧ many ≤ 8)) :
    Calls Tryd.prog 57 #[.int .i64 n, .int .i64 many] w fun e w' => ∃ p c, e = .returned (.slice p 0 c) ∧ Own 5 w' w.heap.size w'.heap.size (.slice p 0 c) 0 [] ∧ Below w.heap.size w w' := by
  by_cases h0 : n < 0
  · clear h
    go_enter Tryd.func57, Tryd.ntmps57
    go_wp2
    go_ret
    exact ⟨_, _, rfl, .of (World.ownsRow_nil _ _ _ _), Below.refl _ _⟩
  · by_cases h1 : many < 1
    · clear h
      go_enter Tryd.func57, Tryd.ntmps57
      go_wp2
      go_ret
      exact ⟨_, _, rfl, .of (World.ownsRow_nil _ _ _ _), Below.refl _ _⟩
    · have h2 : 8 < many := by
        rcases Int.lt_or_le 8 many with h2 | h2
        · exact h2
        · exact absurd ⟨by omega, by omega, h2⟩ h
      clear h
      go_enter Tryd.func57, Tryd.ntmps57
      go_wp2
      go_ret
      exact ⟨_, _, rfl, .of (World.ownsRow_nil _ _ _ _), Below.refl _ _⟩

set_option maxHeartbeats 1000000 in
theorem implLittle_yes (n : Int) (m : Nat) (w : World) (h0 : 0 ≤ n) (h63 : n ≤ 9223372036854775807) (h1 : 1 ≤ m) (h2 : m ≤ 8) :
    Calls Tryd.prog 57 #[.int .i64 n, .int .i64 m] w fun e w' => ∃ p c, e = .returned (.slice p m c) ∧ Own 5 w' w.heap.size w'.heap.size (.slice p m c) m (littleL n m) ∧ Below w.heap.size w w' := by
  obtain ⟨i0, hi, hz0, hz1, hz2⟩ := info_parts infoByte
  have c0 : ¬ n < 0 := by omega
  have c1 : ¬ (m : Int) < 1 := by omega
  have c2 : ¬ 8 < (m : Int) := by omega
  go_enter Tryd.func57, Tryd.ntmps57
  go_wp2_with (at_make; refine wpList_make_full _ rfl _ _ 22 rfl w.heap.size 5 i0 (.int .u8 0) 1 Tryd.underlying22 hi hz0 hz1 _ _ _ _ m rfl rfl rfl rfl (by rw [hz2]; omega) (by unfold maxLen; omega) (Nat.le_refl _) ?_)
  intro w1 hown hgrow
  rw [fill_start (littleL n m) m] at hown
  have hbel : Below w.heap.size w w1 := (Below.refl _ _).grown hgrow (Nat.le_refl _) (fun _ h => by cases h)
  clear hgrow
  go_wp2
  go_loopw [21] (fun i wr => ∃ k : Nat, k ≤ m ∧ i = .int .i64 k ∧ wr.ownsRow w.heap.size 5 1 (.slice (some ⟨w.heap.size, 0, none⟩) m m) m (((littleL n m).take k ++ List.replicate (m - k) 0).map (Value.int .u8)) ∧ Below w.heap.size w wr)
    (fun i _ => m - (intOf i).toNat)
  case atStart => exact ⟨0, Nat.zero_le _, rfl, hown, hbel⟩
  case round =>
    clear hown hbel
    obtain ⟨k, hk, rfl, hown, hbel⟩ := hrel
    by_cases hlt : k < m
    · have hl := littleL_length n m
      have hold : wr.cell? ⟨w.heap.size, k, none⟩ = some (.int .u8 0) := by
        rw [hown.cellAt k (by omega)]; exact fill_old _ m k hlt hl
      have hfz := hown.frozenAt k
      have hst := hown.stored k (.int .u8 (n / 2 ^ (8 * k) % 256))
      rw [fill_step (littleL n m) m k _ (by rw [littleL_getD n m k hlt, two_eight]) hlt hl] at hst
      have hbel' := hbel.setCell (p := ⟨w.heap.size, k, none⟩) (Nat.le_refl _) (.int .u8 (n / 2 ^ (8 * k) % 256))
      clear hl
      go_wp2
      go_roundw
      case rel => exact ⟨k + 1, by omega, by go_num, hst.1, hbel'⟩
      case measure => simp [intOf]; omega
    · have hkn : k = m := by omega
      subst hkn
      rw [fill_end _ _ (littleL_length n k)] at hown
      go_wp2
      go_ret
      exact ⟨_, _, rfl, .of hown, hbel⟩

theorem specLittle_any (n many : Int) (w : World) (h63 : n ≤ 9223372036854775807) :
    Calls Tryd.prog 53 #[.int .i64 n, .int .i64 many] w fun e w' => ∃ p c, e = .returned (.slice p (fitN n many) c) ∧ Own 5 w' w.heap.size w'.heap.size (.slice p (fitN n many) c) (fitN n many) (fitL n many) ∧ Below w.heap.size w w' := by
  by_cases h : 0 ≤ n ∧ 1 ≤ many ∧ many ≤ 8
  · have e : many = ((many.toNat : Nat) : Int) := by omega
    unfold fitL
    rw [fit_yes h]
    rw [e]
    exact specLittle_yes n many.toNat w h.1 h63 (by omega) (by omega)
  · rw [(fit_no h).1, (fit_no h).2]
    exact specLittle_no n many w h

theorem implLittle_any (n many : Int) (w : World) (h63 : n ≤ 9223372036854775807) :
    Calls Tryd.prog 57 #[.int .i64 n, .int .i64 many] w fun e w' => ∃ p c, e = .returned (.slice p (fitN n many) c) ∧ Own 5 w' w.heap.size w'.heap.size (.slice p (fitN n many) c) (fitN n many) (fitL n many) ∧ Below w.heap.size w w' := by
  by_cases h : 0 ≤ n ∧ 1 ≤ many ∧ many ≤ 8
  · have e : many = ((many.toNat : Nat) : Int) := by omega
    unfold fitL
    rw [fit_yes h]
    rw [e]
    exact implLittle_yes n many.toNat w h.1 h63 (by omega) (by omega)
  · rw [(fit_no h).1, (fit_no h).2]
    exact implLittle_no n many w h

end Go.Proofs.YtepbidaoloplbaaDoor

namespace Go.Proofs.YtepbidaoloplbaaDoor
open Go.RowKit
set_option maxRecDepth 100000

theorem revL_step (xs : List Int) (n k : Nat) (u : Int) (hx : xs.length = n) (hk : k < n) (hu : u = xs.getD (n - 1 - k) 0) : xs.reverse.take k ++ [u] = xs.reverse.take (k + 1) := by
  subst hu
  rw [List.take_succ_eq_append_getElem (by simp; omega), List.getElem_reverse]
  simp [List.getElem?_eq_getElem (show n - 1 - k < xs.length by omega), hx]

set_option maxHeartbeats 2000000 in
theorem specGreat_any (n many : Int) (w : World) (h63 : n ≤ 9223372036854775807) :
    Calls Tryd.prog 52 #[.int .i64 n, .int .i64 many] w fun e w' => ∃ p c, e = .returned (.slice p (fitN n many) c) ∧ Own 5 w' w.heap.size w'.heap.size (.slice p (fitN n many) c) (fitN n many) (fitL n many).reverse ∧ Below w.heap.size w w' := by
  obtain ⟨i0, hi, hz0, hz1, hz2⟩ := info_parts infoByte
  have hle := fitN_le n many
  obtain ⟨N, hN⟩ : ∃ N, N = fitN n many := ⟨_, rfl⟩
  obtain ⟨L, hL⟩ : ∃ L, L = fitL n many := ⟨_, rfl⟩
  have C := fun w => specLittle_any n many w h63
  rw [← hN] at hle ⊢
  rw [← hL]
  simp only [← hN, ← hL] at C
  clear hN hL
  go_enter Tryd.func52, Tryd.ntmps52
  go_wp2_with (fail)
  refine (C _).mono ?_
  rintro e w1 ⟨p1, c1, rfl, r1, b1⟩
  have hz1' := b1.size
  have hx := r1.len
  have hin := r1.bytes
  go_wp2
  go_loopw [6, 7] (fun v i wr => ∃ k : Nat, k ≤ N ∧ i = .int .i64 ((N : Int) - 1 - k) ∧ wr.ownsRow w1.heap.size 5 1 v k ((L.reverse.take k).map (Value.int .u8)) ∧ Below w1.heap.size w1 wr)
    (fun _ i _ => (intOf i + 1).toNat)
  case atStart => exact ⟨0, Nat.zero_le _, by go_num, World.ownsRow_made w1 #[] 0 (Nat.le_refl _) (by unfold maxLen; omega) rfl, (Below.refl _ _).alloc (Nat.le_refl _) _⟩
  case round =>
    obtain ⟨k, hk, rfl, hown, hbel⟩ := hrel
    have hsz := hbel.size
    by_cases hlt : k < N
    · obtain ⟨j, hj⟩ : ∃ j : Nat, j + k + 1 = N := ⟨N - 1 - k, by omega⟩
      have hij : ((N : Int) - 1 - (k : Int)) = (j : Int) := by omega
      rw [hij]
      clear hij
      obtain ⟨b, o, rfl, hc⟩ := hin (by omega)
      obtain ⟨u, hu⟩ : ∃ u, u = L.getD j 0 := ⟨_, rfl⟩
      have hcx : wr.cell? ⟨b, o + j, none⟩ = some (.int .u8 u) := by
        rw [hbel.cell (p := ⟨b, o + j, none⟩) (World.block_lt_of_cell? w1 ⟨b, o + j, none⟩ (hc j (by omega))), hu]
        exact hc j (by omega)
      have HN : Hid (L.reverse.take k ++ [u] = L.reverse.take (k + 1)) := revL_step L N k u hx hlt (by rw [hu, show N - 1 - k = j by omega])
      clear hc hin hu hx
      go_wp2_with (at_builtin; refine list_push hi hz0 hz1 hz2 (.tmp 19) (.tmp 24) 22 Tryd.underlying22 _ hown (by omega) (by omega) (by rfl) (by rfl) (by rfl) (by rfl) ?_; intro g cap w2 ho1 hb1; rw [HN.out] at ho1)
      go_roundw
      case rel => exact ⟨k + 1, by omega, by go_num, ho1, hbel.trans hb1⟩
      case measure => simp [intOf]
    · obtain rfl : k = N := by omega
      have c0 : ¬ (0 : Int) ≤ (k : Int) - 1 - (k : Int) := by omega
      rw [List.take_of_length_le (by simp; omega)] at hown
      obtain ⟨p', c', hv⟩ := owns_form hown
      subst hv
      go_wp2
      go_ret
      exact ⟨_, _, rfl, .of (owns_mono hown hz1'), below_on b1 hbel⟩

set_option maxHeartbeats 2000000 in
theorem implGreat_any (n many : Int) (w : World) (h63 : n ≤ 9223372036854775807) :
    Calls Tryd.prog 58 #[.int .i64 n, .int .i64 many] w fun e w' => ∃ p c, e = .returned (.slice p (fitN n many) c) ∧ Own 5 w' w.heap.size w'.heap.size (.slice p (fitN n many) c) (fitN n many) (fitL n many).reverse ∧ Below w.heap.size w w' := by
  have hle := fitN_le n many
  go_enter Tryd.func58, Tryd.ntmps58
  go_wp2_with (fail)
  refine (implLittle_any n many _ h63).mono ?_
  rintro e w1 ⟨p1, c1, rfl, r1, b1⟩
  go_wp2_with (fail)
  refine (reverse_any _ _ p1 (fitN n many) c1 (fitL n many) _ (by omega) r1).mono ?_
  rintro e w2 ⟨rfl, r2, g2⟩
  go_wp2_with (fail)
  go_ret
  exact ⟨_, _, rfl, .of r2.1, b1.grown g2 b1.size fun k hk => (r1.1.lt k hk).1⟩

end Go.Proofs.YtepbidaoloplbaaDoor

namespace Go.Proofs.YtepbidaoloplbaaDoor
open Go.RowKit
set_option maxRecDepth 100000

/-- A number's word as four bytes. -/
def fourL (great : Bool) (n : Int) : List Int := if great = true then (littleL (n % 4294967296) 4).reverse else littleL (n % 4294967296) 4
theorem fourL_length (great : Bool) (n : Int) : (fourL great n).length = 4 := by unfold fourL; split <;> simp [littleL_length]
def bytesL (great : Bool) (xs : List Int) : List Int := xs.flatMap (fourL great)
theorem bytesL_length (great : Bool) (xs : List Int) : (bytesL great xs).length = 4 * xs.length := by
  induction xs with
  | nil => rfl
  | cons x xs ih => simp only [bytesL, List.flatMap_cons, List.length_append, fourL_length, List.length_cons] at ih ⊢; omega
theorem bytesL_step (great : Bool) (xs : List Int) (k : Nat) (hk : k < xs.length) : bytesL great (xs.take k) ++ fourL great (xs.getD k 0) = bytesL great (xs.take (k + 1)) := by
  rw [List.take_succ_eq_append_getElem hk]
  simp only [bytesL, List.flatMap_append, List.flatMap_cons, List.flatMap_nil, List.append_nil, List.getD_eq_getElem?_getD, List.getElem?_eq_getElem hk, Option.getD_some]

theorem implLittle4 (n : Int) (w : World) :
    Calls Tryd.prog 57 #[.int .i64 (n % 4294967296), .int .i64 4] w fun e w' => ∃ p c, e = .returned (.slice p 4 c) ∧ Own 5 w' w.heap.size w'.heap.size (.slice p 4 c) 4 (fourL false n) ∧ Below w.heap.size w w' :=
  implLittle_yes (n % 4294967296) 4 w (by omega) (by omega) (by omega) (by omega)
theorem specLittle4 (n : Int) (w : World) :
    Calls Tryd.prog 53 #[.int .i64 (n % 4294967296), .int .i64 4] w fun e w' => ∃ p c, e = .returned (.slice p 4 c) ∧ Own 5 w' w.heap.size w'.heap.size (.slice p 4 c) 4 (fourL false n) ∧ Below w.heap.size w w' :=
  specLittle_yes (n % 4294967296) 4 w (by omega) (by omega) (by omega) (by omega)
theorem fit4 (n : Int) : fitN (n % 4294967296) 4 = 4 ∧ fitL (n % 4294967296) 4 = littleL (n % 4294967296) 4 := by
  have h : fitN (n % 4294967296) 4 = 4 := fit_yes ⟨by omega, by omega, by omega⟩
  exact ⟨h, by unfold fitL; rw [h]⟩
theorem implGreat4 (n : Int) (w : World) :
    Calls Tryd.prog 58 #[.int .i64 (n % 4294967296), .int .i64 4] w fun e w' => ∃ p c, e = .returned (.slice p 4 c) ∧ Own 5 w' w.heap.size w'.heap.size (.slice p 4 c) 4 (fourL true n) ∧ Below w.heap.size w w' := by
  have h := implGreat_any (n % 4294967296) 4 w (by omega)
  rw [(fit4 n).1, (fit4 n).2] at h
  exact h
theorem specGreat4 (n : Int) (w : World) :
    Calls Tryd.prog 52 #[.int .i64 (n % 4294967296), .int .i64 4] w fun e w' => ∃ p c, e = .returned (.slice p 4 c) ∧ Own 5 w' w.heap.size w'.heap.size (.slice p 4 c) 4 (fourL true n) ∧ Below w.heap.size w w' := by
  have h := specGreat_any (n % 4294967296) 4 w (by omega)
  rw [(fit4 n).1, (fit4 n).2] at h
  exact h

set_option maxHeartbeats 2000000 in
theorem implBytesLittle_any (p : Option Addr) (n c : Nat) (xs : List Int) (w : World) (hn : n ≤ 1073741824) (hx : xs.length = n) (h : IntsIn w p n xs) :
    Calls Tryd.prog 51 #[.slice p n c, .bool false] w fun e w' => ∃ p' c', e = .returned (.slice p' (4 * n) c') ∧ Own 5 w' w.heap.size w'.heap.size (.slice p' (4 * n) c') (4 * n) (bytesL false xs) ∧ Below w.heap.size w w' := by
  obtain ⟨i0, hi, hz0, hz1, hz2⟩ := info_parts infoByte
  go_enter Tryd.func51, Tryd.ntmps51
  go_wp2_with (at_make; refine wpList_make_own _ rfl _ _ 22 rfl w.heap.size 5 i0 (.int .u8 0) 1 Tryd.underlying22 hi hz0 hz1 _ _ _ (4 * n) rfl rfl (by simp) (by rw [hz2]; omega) (by unfold maxLen; omega) (Nat.le_refl _) ?_)
  intro w1 hown hgrow
  have hbel : Below w.heap.size w w1 := (Below.refl _ _).grown hgrow (Nat.le_refl _) (fun _ h => by cases h)
  clear hgrow
  go_wp2
  go_loopw [6, 16] (fun v i wr => ∃ k : Nat, k ≤ n ∧ i = .int .i64 k ∧ wr.ownsRow w.heap.size 5 1 v (4 * k) ((bytesL false (xs.take k)).map (Value.int .u8)) ∧ Below w.heap.size w wr)
    (fun _ i _ => n - (intOf i).toNat)
  case atStart => exact ⟨0, Nat.zero_le _, rfl, by simpa [bytesL] using hown, hbel⟩
  case round =>
    clear hown hbel
    obtain ⟨k, hk, rfl, hown, hbel⟩ := hrel
    by_cases hlt : k < n
    · obtain ⟨b, o, rfl, hcell⟩ := h (by omega)
      have HN : Hid (bytesL false (xs.take k) ++ fourL false (xs.getD k 0) = bytesL false (xs.take (k + 1))) := bytesL_step _ _ _ (by omega)
      have hc := hcell k hlt
      have c0 : wr.cell? ⟨b, o + k, none⟩ = some (.int .i64 (xs.getD k 0)) := by
        rw [hbel.cell (p := ⟨b, o + k, none⟩) (World.block_lt_of_cell? w ⟨b, o + k, none⟩ hc)]
        exact hc
      clear hc hcell h
      generalize xs.getD k 0 = u at HN c0
      go_wp2_with (fail)
      refine (implWord_same u _).mono ?_
      rintro e w2 ⟨rfl, rfl⟩
      go_wp2_with (fail)
      refine (implLittle4 u _).mono ?_
      rintro e w2 ⟨q, d, rfl, r2, b2⟩
      replace hown := owns_below hown b2
      replace hbel := below_on hbel b2
      have hsz := hbel.size
      have hl4 := fourL_length false u
      have hin := r2.bytes
      clear r2 b2 c0
      generalize fourL false u = ys at HN hl4 hin
      go_wp2_with (at_builtin; refine list_spread hi hz0 hz1 hz2 (.tmp 20) (.tmp 24) 22 Tryd.underlying22 hown hin hl4 (by omega) (by omega) (by omega) hsz (by rfl) (by rfl) (by rfl) (by rfl) ?_; intro g cap w3 ho3 _ hb3; rw [HN.out] at ho3)
      go_roundw
      case rel => exact ⟨k + 1, by omega, by go_num, ho3, hbel.trans hb3⟩
      case measure => simp [intOf]; omega
    · have hkn : k = n := by omega
      subst hkn
      obtain ⟨p', c', hv⟩ := owns_form hown
      subst hv
      rw [List.take_of_length_le (by omega)] at hown
      clear h
      go_wp2
      go_ret
      exact ⟨_, _, rfl, .of hown, hbel⟩

set_option maxHeartbeats 2000000 in
theorem implBytesGreat_any (p : Option Addr) (n c : Nat) (xs : List Int) (w : World) (hn : n ≤ 1073741824) (hx : xs.length = n) (h : IntsIn w p n xs) :
    Calls Tryd.prog 51 #[.slice p n c, .bool true] w fun e w' => ∃ p' c', e = .returned (.slice p' (4 * n) c') ∧ Own 5 w' w.heap.size w'.heap.size (.slice p' (4 * n) c') (4 * n) (bytesL true xs) ∧ Below w.heap.size w w' := by
  obtain ⟨i0, hi, hz0, hz1, hz2⟩ := info_parts infoByte
  go_enter Tryd.func51, Tryd.ntmps51
  go_wp2_with (at_make; refine wpList_make_own _ rfl _ _ 22 rfl w.heap.size 5 i0 (.int .u8 0) 1 Tryd.underlying22 hi hz0 hz1 _ _ _ (4 * n) rfl rfl (by simp) (by rw [hz2]; omega) (by unfold maxLen; omega) (Nat.le_refl _) ?_)
  intro w1 hown hgrow
  have hbel : Below w.heap.size w w1 := (Below.refl _ _).grown hgrow (Nat.le_refl _) (fun _ h => by cases h)
  clear hgrow
  go_wp2
  go_loopw [6, 16] (fun v i wr => ∃ k : Nat, k ≤ n ∧ i = .int .i64 k ∧ wr.ownsRow w.heap.size 5 1 v (4 * k) ((bytesL true (xs.take k)).map (Value.int .u8)) ∧ Below w.heap.size w wr)
    (fun _ i _ => n - (intOf i).toNat)
  case atStart => exact ⟨0, Nat.zero_le _, rfl, by simpa [bytesL] using hown, hbel⟩
  case round =>
    clear hown hbel
    obtain ⟨k, hk, rfl, hown, hbel⟩ := hrel
    by_cases hlt : k < n
    · obtain ⟨b, o, rfl, hcell⟩ := h (by omega)
      have HN : Hid (bytesL true (xs.take k) ++ fourL true (xs.getD k 0) = bytesL true (xs.take (k + 1))) := bytesL_step _ _ _ (by omega)
      have hc := hcell k hlt
      have c0 : wr.cell? ⟨b, o + k, none⟩ = some (.int .i64 (xs.getD k 0)) := by
        rw [hbel.cell (p := ⟨b, o + k, none⟩) (World.block_lt_of_cell? w ⟨b, o + k, none⟩ hc)]
        exact hc
      clear hc hcell h
      generalize xs.getD k 0 = u at HN c0
      go_wp2_with (fail)
      refine (implWord_same u _).mono ?_
      rintro e w2 ⟨rfl, rfl⟩
      go_wp2_with (fail)
      refine (implGreat4 u _).mono ?_
      rintro e w2 ⟨q, d, rfl, r2, b2⟩
      replace hown := owns_below hown b2
      replace hbel := below_on hbel b2
      have hsz := hbel.size
      have hl4 := fourL_length true u
      have hin := r2.bytes
      clear r2 b2 c0
      generalize fourL true u = ys at HN hl4 hin
      go_wp2_with (at_builtin; refine list_spread hi hz0 hz1 hz2 (.tmp 20) (.tmp 24) 22 Tryd.underlying22 hown hin hl4 (by omega) (by omega) (by omega) hsz (by rfl) (by rfl) (by rfl) (by rfl) ?_; intro g cap w3 ho3 _ hb3; rw [HN.out] at ho3)
      go_roundw
      case rel => exact ⟨k + 1, by omega, by go_num, ho3, hbel.trans hb3⟩
      case measure => simp [intOf]; omega
    · have hkn : k = n := by omega
      subst hkn
      obtain ⟨p', c', hv⟩ := owns_form hown
      subst hv
      rw [List.take_of_length_le (by omega)] at hown
      clear h
      go_wp2
      go_ret
      exact ⟨_, _, rfl, .of hown, hbel⟩

set_option maxHeartbeats 2000000 in
theorem specBytesLittle_any (p : Option Addr) (n c : Nat) (xs : List Int) (w : World) (hn : n ≤ 1073741824) (hx : xs.length = n) (h : IntsIn w p n xs) :
    Calls Tryd.prog 39 #[.slice p n c, .bool false] w fun e w' => ∃ p' c', e = .returned (.slice p' (4 * n) c') ∧ Own 5 w' w.heap.size w'.heap.size (.slice p' (4 * n) c') (4 * n) (bytesL false xs) ∧ Below w.heap.size w w' := by
  obtain ⟨i0, hi, hz0, hz1, hz2⟩ := info_parts infoByte
  go_enter Tryd.func39, Tryd.ntmps39
  go_wp2
  go_loopw [5, 6] (fun v i wr => ∃ k : Nat, k ≤ n ∧ i = .int .i64 k ∧ wr.ownsRow w.heap.size 5 1 v (4 * k) ((bytesL false (xs.take k)).map (Value.int .u8)) ∧ Below w.heap.size w wr)
    (fun _ i _ => n - (intOf i).toNat)
  case atStart => exact ⟨0, Nat.zero_le _, rfl, World.ownsRow_made w #[] 0 (Nat.le_refl _) (by unfold maxLen; omega) rfl, (Below.refl _ _).alloc (Nat.le_refl _) _⟩
  case round =>
    obtain ⟨k, hk, rfl, hown, hbel⟩ := hrel
    by_cases hlt : k < n
    · obtain ⟨b, o, rfl, hcell⟩ := h (by omega)
      have HN : Hid (bytesL false (xs.take k) ++ fourL false (xs.getD k 0) = bytesL false (xs.take (k + 1))) := bytesL_step _ _ _ (by omega)
      have hc := hcell k hlt
      have c0 : wr.cell? ⟨b, o + k, none⟩ = some (.int .i64 (xs.getD k 0)) := by
        rw [hbel.cell (p := ⟨b, o + k, none⟩) (World.block_lt_of_cell? w ⟨b, o + k, none⟩ hc)]
        exact hc
      clear hc hcell h
      generalize xs.getD k 0 = u at HN c0
      go_wp2_with (fail)
      refine (specWord_same u _).mono ?_
      rintro e w2 ⟨rfl, rfl⟩
      go_wp2_with (fail)
      refine (specLittle4 u _).mono ?_
      rintro e w2 ⟨q, d, rfl, r2, b2⟩
      replace hown := owns_below hown b2
      replace hbel := below_on hbel b2
      have hsz := hbel.size
      have hl4 := fourL_length false u
      have hin := r2.bytes
      clear r2 b2 c0
      generalize fourL false u = ys at HN hl4 hin
      go_wp2_with (at_builtin; refine list_spread hi hz0 hz1 hz2 (.tmp 23) (.tmp 29) 22 Tryd.underlying22 hown hin hl4 (by omega) (by omega) (by omega) hsz (by rfl) (by rfl) (by rfl) (by rfl) ?_; intro g cap w3 ho3 _ hb3; rw [HN.out] at ho3)
      go_roundw
      case rel => exact ⟨k + 1, by omega, by go_num, ho3, hbel.trans hb3⟩
      case measure => simp [intOf]; omega
    · have hkn : k = n := by omega
      subst hkn
      obtain ⟨p', c', hv⟩ := owns_form hown
      subst hv
      rw [List.take_of_length_le (by omega)] at hown
      clear h
      go_wp2
      go_ret
      exact ⟨_, _, rfl, .of hown, hbel⟩

set_option maxHeartbeats 2000000 in
theorem specBytesGreat_any (p : Option Addr) (n c : Nat) (xs : List Int) (w : World) (hn : n ≤ 1073741824) (hx : xs.length = n) (h : IntsIn w p n xs) :
    Calls Tryd.prog 39 #[.slice p n c, .bool true] w fun e w' => ∃ p' c', e = .returned (.slice p' (4 * n) c') ∧ Own 5 w' w.heap.size w'.heap.size (.slice p' (4 * n) c') (4 * n) (bytesL true xs) ∧ Below w.heap.size w w' := by
  obtain ⟨i0, hi, hz0, hz1, hz2⟩ := info_parts infoByte
  go_enter Tryd.func39, Tryd.ntmps39
  go_wp2
  go_loopw [5, 6] (fun v i wr => ∃ k : Nat, k ≤ n ∧ i = .int .i64 k ∧ wr.ownsRow w.heap.size 5 1 v (4 * k) ((bytesL true (xs.take k)).map (Value.int .u8)) ∧ Below w.heap.size w wr)
    (fun _ i _ => n - (intOf i).toNat)
  case atStart => exact ⟨0, Nat.zero_le _, rfl, World.ownsRow_made w #[] 0 (Nat.le_refl _) (by unfold maxLen; omega) rfl, (Below.refl _ _).alloc (Nat.le_refl _) _⟩
  case round =>
    obtain ⟨k, hk, rfl, hown, hbel⟩ := hrel
    by_cases hlt : k < n
    · obtain ⟨b, o, rfl, hcell⟩ := h (by omega)
      have HN : Hid (bytesL true (xs.take k) ++ fourL true (xs.getD k 0) = bytesL true (xs.take (k + 1))) := bytesL_step _ _ _ (by omega)
      have hc := hcell k hlt
      have c0 : wr.cell? ⟨b, o + k, none⟩ = some (.int .i64 (xs.getD k 0)) := by
        rw [hbel.cell (p := ⟨b, o + k, none⟩) (World.block_lt_of_cell? w ⟨b, o + k, none⟩ hc)]
        exact hc
      clear hc hcell h
      generalize xs.getD k 0 = u at HN c0
      go_wp2_with (fail)
      refine (specWord_same u _).mono ?_
      rintro e w2 ⟨rfl, rfl⟩
      go_wp2_with (fail)
      refine (specGreat4 u _).mono ?_
      rintro e w2 ⟨q, d, rfl, r2, b2⟩
      replace hown := owns_below hown b2
      replace hbel := below_on hbel b2
      have hsz := hbel.size
      have hl4 := fourL_length true u
      have hin := r2.bytes
      clear r2 b2 c0
      generalize fourL true u = ys at HN hl4 hin
      go_wp2_with (at_builtin; refine list_spread hi hz0 hz1 hz2 (.tmp 15) (.tmp 21) 22 Tryd.underlying22 hown hin hl4 (by omega) (by omega) (by omega) hsz (by rfl) (by rfl) (by rfl) (by rfl) ?_; intro g cap w3 ho3 _ hb3; rw [HN.out] at ho3)
      go_roundw
      case rel => exact ⟨k + 1, by omega, by go_num, ho3, hbel.trans hb3⟩
      case measure => simp [intOf]; omega
    · have hkn : k = n := by omega
      subst hkn
      obtain ⟨p', c', hv⟩ := owns_form hown
      subst hv
      rw [List.take_of_length_le (by omega)] at hown
      clear h
      go_wp2
      go_ret
      exact ⟨_, _, rfl, .of hown, hbel⟩

theorem implWordBytes_any (p : Option Addr) (n c : Nat) (great : Bool) (xs : List Int) (w : World) (hn : n ≤ 1073741824) (hx : xs.length = n) (h : IntsIn w p n xs) :
    Calls Tryd.prog 51 #[.slice p n c, .bool great] w fun e w' => ∃ p' c', e = .returned (.slice p' (4 * n) c') ∧ Own 5 w' w.heap.size w'.heap.size (.slice p' (4 * n) c') (4 * n) (bytesL great xs) ∧ Below w.heap.size w w' := by
  cases great
  · exact implBytesLittle_any p n c xs w hn hx h
  · exact implBytesGreat_any p n c xs w hn hx h

theorem specWordBytes_any (p : Option Addr) (n c : Nat) (great : Bool) (xs : List Int) (w : World) (hn : n ≤ 1073741824) (hx : xs.length = n) (h : IntsIn w p n xs) :
    Calls Tryd.prog 39 #[.slice p n c, .bool great] w fun e w' => ∃ p' c', e = .returned (.slice p' (4 * n) c') ∧ Own 5 w' w.heap.size w'.heap.size (.slice p' (4 * n) c') (4 * n) (bytesL great xs) ∧ Below w.heap.size w w' := by
  cases great
  · exact specBytesLittle_any p n c xs w hn hx h
  · exact specBytesGreat_any p n c xs w hn hx h

end Go.Proofs.YtepbidaoloplbaaDoor

namespace Go.Proofs.YtepbidaoloplbaaDoor

def colsL (L : List Int) : Nat → List Int
  | 0 => L
  | k + 1 => quarterL (colsL L k) k (k + 4) (k + 8) (k + 12)
def diasL (L : List Int) : Nat → List Int
  | 0 => L
  | k + 1 => quarterL (diasL L k) k (4 + (k + 1) % 4) (8 + (k + 2) % 4) (12 + (k + 3) % 4)
def doubleL (L : List Int) : List Int := diasL (colsL L 4) 4
def tenL (L : List Int) : Nat → List Int
  | 0 => L
  | k + 1 => doubleL (tenL L k)
theorem quarterL_length (L : List Int) (a b c d : Nat) : (quarterL L a b c d).length = L.length := setQ_length
theorem colsL_length (L : List Int) : ∀ k, (colsL L k).length = L.length
  | 0 => rfl
  | k + 1 => by rw [colsL, quarterL_length, colsL_length L k]
theorem diasL_length (L : List Int) : ∀ k, (diasL L k).length = L.length
  | 0 => rfl
  | k + 1 => by rw [diasL, quarterL_length, diasL_length L k]
theorem doubleL_length (L : List Int) : (doubleL L).length = L.length := by rw [doubleL, diasL_length, colsL_length]
theorem tenL_length (L : List Int) : ∀ k, (tenL L k).length = L.length
  | 0 => rfl
  | k + 1 => by rw [tenL, doubleL_length, tenL_length L k]
/-- The first k with what was first, the others as they were. -/
def sumsL (X F : List Int) (k : Nat) : List Int := ((List.range k).map fun i => (((wordN (X.getD i 0) + wordN (F.getD i 0)) % 4294967296 : Nat) : Int)) ++ X.drop k
theorem sumsL_length {X : List Int} (F : List Int) {k : Nat} (h : k ≤ X.length) : (sumsL X F k).length = X.length := by simp [sumsL]; omega
theorem sumsL_get {X : List Int} (F : List Int) {k : Nat} (h : k < X.length) : (sumsL X F k)[k]? = some (X.getD k 0) := by
  rw [sumsL, List.getElem?_append_right (by simp)]
  simp [List.getElem?_eq_getElem h]
theorem sumsL_set {X : List Int} (F : List Int) {k : Nat} (h : k < X.length) (z : Int) (hz : z = (((wordN (X.getD k 0) + wordN (F.getD k 0)) % 4294967296 : Nat) : Int)) : (sumsL X F k).set k z = sumsL X F (k + 1) := by
  subst hz
  simp only [sumsL]
  rw [List.set_append_right _ _ (by simp), List.length_map, List.length_range, Nat.sub_self, List.range_succ, List.map_append, List.append_assoc]
  congr 1
  rw [List.drop_eq_getElem_cons h]
  rfl
/-- The 16 words at first: four that are given, the key's eight, the count, the nonce's three. -/
def firstL (key : List Int) (count : Int) (nonce : List Int) : List Int := [1634760805, 857760878, 2036477234, 1797285236] ++ wordsL false key 8 ++ [count] ++ wordsL false nonce 3
theorem firstL_length (key : List Int) (count : Int) (nonce : List Int) : (firstL key count nonce).length = 16 := by simp [firstL, wordsL]
def blkOk (n m : Nat) (count : Int) : Prop := n = 32 ∧ m = 12 ∧ 0 ≤ count ∧ count ≤ 4294967295
instance (n m : Nat) (count : Int) : Decidable (blkOk n m count) := inferInstanceAs (Decidable (_ ∧ _ ∧ _ ∧ _))
def blkB (key : List Int) (count : Int) (nonce : List Int) : List Int := bytesL false (sumsL (tenL (firstL key count nonce) 10) (firstL key count nonce) 16)
def blkN (n m : Nat) (count : Int) : Nat := if blkOk n m count then 64 else 0
def blkL (key : List Int) (count : Int) (nonce : List Int) : List Int := if blkOk key.length nonce.length count then blkB key count nonce else []
theorem blkN_le (n m : Nat) (count : Int) : blkN n m count ≤ 64 := by unfold blkN; split <;> omega
theorem blkB_length (key : List Int) (count : Int) (nonce : List Int) : (blkB key count nonce).length = 64 := by
  rw [blkB, bytesL_length, sumsL_length _ (by rw [tenL_length, firstL_length]; decide), tenL_length, firstL_length]

end Go.Proofs.YtepbidaoloplbaaDoor

namespace Go.Proofs.YtepbidaoloplbaaDoor
open Go.RowKit
set_option maxRecDepth 100000

def chkB : Code :=
  .seq (.region 0 #[{ dst := some 1, op := .assign (.const (.bool true)), type := 4, pos := "", after := #[], guard := none }, { dst := some 2, op := .assign (.const (.int .i64 0)), type := 3, pos := "", after := #[], guard := none }] false)
    (.seq (.block 0 (.loop (.seq (.region 1 #[{ dst := some 3, op := .move (.tmp 0), type := 22, pos := "", after := #[], guard := none }, { dst := some 4, op := .call { callee := .builtin .len, args := #[.tmp 3], argTypes := #[22] }, type := 3, pos := "", after := #[], guard := none }, { dst := some 5, op := .binOp .lss 3 (.tmp 2) (.tmp 4) 3, type := 4, pos := "", after := #[], guard := none }] false)
      (.seq (.cond (.tmp 5) .skip (.exit 0))
        (.seq (.seq (.region 2 #[{ dst := some 6, op := .indexAddr 22 (.tmp 0) (.tmp 2), type := 0, pos := "", after := #[], guard := none }, { dst := some 7, op := .load 5 (.tmp 6), type := 5, pos := "", after := #[], guard := none }, { dst := some 8, op := .binOp .leq 5 (.tmp 7) (.const (.int .u8 255)) 5, type := 4, pos := "", after := #[], guard := none }] false)
            (.cond (.tmp 8) .skip (.seq (.region 3 #[{ dst := some 1, op := .assign (.const (.bool false)), type := 4, pos := "", after := #[], guard := none }] false) .ret)))
          (.seq (.seq (.region 4 #[{ dst := some 9, op := .binOp .geq 5 (.tmp 7) (.const (.int .u8 0)) 5, type := 4, pos := "", after := #[], guard := none }] false)
              (.cond (.tmp 9) .skip (.seq (.region 5 #[{ dst := some 1, op := .assign (.const (.bool false)), type := 4, pos := "", after := #[], guard := none }] false) .ret)))
            (.region 6 #[{ dst := some 10, op := .binOp .add 3 (.tmp 2) (.const (.int .i64 1)) 3, type := 3, pos := "", after := #[], guard := none }, { dst := some 2, op := .move (.tmp 10), type := 3, pos := "", after := #[], guard := none }] false)))))))
      .ret)
def chkF : Func := { name := "chk", origin := "", params := #[22], resultTypes := #[4], nfree := 0, ntmps := 11, results := #[.tmp 1], norace := false, body := some chkB, tmpNames := #[] }
theorem chk_ntmps : chkF.ntmps = 11 := rfl
set_option maxHeartbeats 1000000 in
theorem chk_any {P : Program} {F : Nat} {i0 : TypeInfo} (hf : P.funcs[F]? = some chkF) (hu : P.underlying 22 = some (.slice 5)) (hub : P.underlying 5 = some (.int .u8)) (hi : P.info? 5 = some i0) (hz1 : i0.size = 1) (p : Option Addr) (n c : Nat) (xs : List Int) (w : World) (hx : xs.length = n) (hn : n ≤ 9223372036854775807) (h : BytesIn w p n xs) :
    Calls P F #[.slice p n c] w fun e w' => e = .returned (.bool (decide (∀ x ∈ xs, 0 ≤ x ∧ x < 256))) ∧ w' = w := by
  have hu' : P.underlying 22 = some (.slice (P.elem 22)) := by simp [Program.elem, hu]
  have he : P.elem 22 = 5 := by simp [Program.elem, hu]
  have hso : ∀ W, (sizeOf 5).run P W = .ok 1 W := fun W => by simp [sizeOf, typeInfo, hi, hz1]
  have hag : ∀ W, (isAgg 5).run P W = .ok false W := fun W => by simp [isAgg, run_underlying hub]
  go_enter hf, chk_ntmps
  unfold chkB
  go_wp2
  go_loopw [1, 2] (fun t i wr => ∃ k : Nat, k ≤ n ∧ t = .bool true ∧ i = .int .i64 k ∧ Hid (∀ j : Nat, j < k → 0 ≤ xs.getD j 0 ∧ xs.getD j 0 < 256) ∧ wr = w) (fun _ i _ => n - (intOf i).toNat)
  case atStart => exact ⟨0, Nat.zero_le _, rfl, rfl, fun j hj => absurd hj (Nat.not_lt_zero _), rfl⟩
  case round =>
    obtain ⟨k, hk, rfl, rfl, hall, rfl⟩ := hrel
    by_cases hlt : k < n
    · obtain ⟨b, o, rfl, hc⟩ := h (by omega)
      have h1 := hc k hlt
      obtain ⟨u, hu⟩ : ∃ u, u = xs.getD k 0 := ⟨_, rfl⟩
      rw [← hu] at h1
      clear hc h
      by_cases q1 : u ≤ 255
      · by_cases q2 : u ≥ 0
        · have hmore : Hid (∀ j : Nat, j < k + 1 → 0 ≤ xs.getD j 0 ∧ xs.getD j 0 < 256) := fun j hj => by
            rcases Nat.lt_or_ge j k with h2 | h2
            · exact hall.out j h2
            · obtain rfl : j = k := by omega
              rw [← hu]
              omega
          clear hu hall
          go_wp2
          go_roundw
          case rel => exact ⟨k + 1, by omega, rfl, by go_num, hmore, trivial⟩
          case measure => simp [intOf]; omega
        · have hno : Hid (decide (∀ x ∈ xs, 0 ≤ x ∧ x < 256) = false) := decide_eq_false fun hA => by
            have := hA u (by rw [hu, List.getD_eq_getElem?_getD, List.getElem?_eq_getElem (by omega)]; exact List.getElem_mem _)
            omega
          clear hu hall
          go_wp2
          go_ret
          rw [hno.out]
          exact ⟨rfl, rfl⟩
      · have hno : Hid (decide (∀ x ∈ xs, 0 ≤ x ∧ x < 256) = false) := decide_eq_false fun hA => by
          have := hA u (by rw [hu, List.getD_eq_getElem?_getD, List.getElem?_eq_getElem (by omega)]; exact List.getElem_mem _)
          omega
        clear hu hall
        go_wp2
        go_ret
        rw [hno.out]
        exact ⟨rfl, rfl⟩
    · have hyes : Hid (decide (∀ x ∈ xs, 0 ≤ x ∧ x < 256) = true) := decide_eq_true fun x hx' => by
        obtain ⟨j, hj, rfl⟩ := List.getElem_of_mem hx'
        have := hall.out j (by omega)
        rwa [List.getD_eq_getElem?_getD, List.getElem?_eq_getElem hj] at this
      clear hall
      go_wp2
      go_ret
      rw [hyes.out]
      exact ⟨rfl, rfl⟩

end Go.Proofs.YtepbidaoloplbaaDoor
