/-
  What spec.Words and impl.Words answer.
  What the specification's l3Table and l3More answer: the 64 numbers of the rounds; the 64 words of any 64 bytes; condition: they are bytes.
  What the specification's HashBlock answers, whatever ints and bytes it is given; conditions: a length is an int's, the bytes are bytes.
-/
import Derived.Test.YthfnechcddmjkaaGreatDoorParf02
import Derived.Laws.Cover3
import Derived.Deep.RegionHeld3
namespace Go.Proofs.YthfnechcddmjkaaGreatDoor
open Go.RowKit
set_option maxRecDepth 100000

def wordAt (great : Bool) (xs : List Int) (i : Nat) : Int :=
  let x (j : Nat) := (xs.getD (4 * i + j) 0).toNat
  if great = true then (four (x 0) (x 1) (x 2) (x 3) : Nat) else (four (x 3) (x 2) (x 1) (x 0) : Nat)
def wordsL (great : Bool) (xs : List Int) (k : Nat) : List Int := (List.range k).map (wordAt great xs)
theorem wordsL_length (great : Bool) (xs : List Int) (k : Nat) : (wordsL great xs k).length = k := by simp [wordsL]
theorem wordsL_step (great : Bool) (xs : List Int) (k : Nat) : wordsL great xs k ++ [wordAt great xs k] = wordsL great xs (k + 1) := by simp [wordsL, List.range_succ]

theorem readWord_any (great : Bool) (w : World) (x0 x1 x2 x3 : Int) (h0 : 0 ≤ x0 ∧ x0 < 256) (h1 : 0 ≤ x1 ∧ x1 < 256) (h2 : 0 ≤ x2 ∧ x2 < 256) (h3 : 0 ≤ x3 ∧ x3 < 256) :
    Calls Tryz.prog 217 #[.agg #[.int .u8 x0, .int .u8 x1, .int .u8 x2, .int .u8 x3], .bool great] w fun e w' =>
      e = .returned (.int .i64 (if great = true then (four x0.toNat x1.toNat x2.toNat x3.toNat : Nat) else (four x3.toNat x2.toNat x1.toNat x0.toNat : Nat))) ∧ Below w.heap.size w w' := by
  obtain ⟨y0, rfl⟩ : ∃ y : Nat, x0 = y := ⟨x0.toNat, by omega⟩
  obtain ⟨y1, rfl⟩ : ∃ y : Nat, x1 = y := ⟨x1.toNat, by omega⟩
  obtain ⟨y2, rfl⟩ : ∃ y : Nat, x2 = y := ⟨x2.toNat, by omega⟩
  obtain ⟨y3, rfl⟩ : ∃ y : Nat, x3 = y := ⟨x3.toNat, by omega⟩
  cases great
  · simpa using readLittle_any w y0 y1 y2 y3 (by omega) (by omega) (by omega) (by omega)
  · simpa using readGreat_any w y0 y1 y2 y3 (by omega) (by omega) (by omega) (by omega)

set_option maxHeartbeats 2000000 in
theorem implWords_any (p : Option Addr) (n c : Nat) (great : Bool) (xs : List Int) (w : World) (hn : n ≤ 1099511627776) (hc : n ≤ c) (hx : xs.length = n) (h : BytesIn w p n xs) (hb : ∀ x ∈ xs, 0 ≤ x ∧ x < 256) :
    Calls Tryz.prog 198 #[.slice p n c, .bool great] w fun e w' => ∃ p' c', e = .returned (.slice p' (n / 4) c') ∧ OwnI 3 w' w.heap.size w'.heap.size (.slice p' (n / 4) c') (n / 4) (wordsL great xs (n / 4)) ∧ Below w.heap.size w w' := by
  obtain ⟨i0, hi, hz0, hz1, hz2⟩ := info_parts infoInt
  have hq : wrap64 ((n : Int) / 4) = ((n / 4 : Nat) : Int) := by unfold wrap64; omega
  go_enter Tryz.func198, Tryz.ntmps198
  go_wp2_with (at_make; refine wpList_make_own _ rfl _ _ 177 rfl w.heap.size 3 i0 (.int .i64 0) 1 Tryz.underlying177 hi hz0 hz1 _ _ _ (n / 4) rfl rfl (by first | rfl | exact hq) (by rw [hz2]; omega) (by unfold maxLen; omega) (Nat.le_refl _) ?_)
  intro w1 hown hgrow
  have hbel : Below w.heap.size w w1 := (Below.refl _ _).grown hgrow (Nat.le_refl _) (fun _ h => by cases h)
  clear hgrow hq
  go_wp2
  go_loopw [0, 5] (fun s v wr => ∃ (k : Nat) (q : Option Addr) (cc : Nat), 4 * k ≤ n ∧ s = .slice q (n - 4 * k) cc ∧ n - 4 * k ≤ cc ∧ BytesIn w q (n - 4 * k) (xs.drop (4 * k)) ∧ wr.ownsRow w.heap.size 3 1 v k ((wordsL great xs k).map (Value.int .i64)) ∧ Below w.heap.size w wr)
    (fun s _ _ => match s with | .slice _ m _ => m | _ => 0)
  case atStart => exact ⟨0, p, c, by omega, rfl, by omega, by simpa using h, by simpa [wordsL] using hown, hbel⟩
  case round =>
    clear hown hbel
    obtain ⟨k, q, cc, hk, rfl, hcc, hin, hown, hbel⟩ := hrel
    by_cases hlt : 4 ≤ n - 4 * k
    · obtain ⟨b, o, rfl, hcell⟩ := hin (by omega)
      have hsz := hbel.size
      have cell : ∀ j, j < 4 → wr.cell? ⟨b, o + j, none⟩ = some (.int .u8 (xs.getD (4 * k + j) 0)) := by
        intro j hj
        rw [hbel.cell (p := ⟨b, o + j, none⟩) (World.block_lt_of_cell? w ⟨b, o + j, none⟩ (hcell j (by omega))), hcell j (by omega)]
        simp [List.getD]
      have byte : ∀ j, j < 4 → 0 ≤ xs.getD (4 * k + j) 0 ∧ xs.getD (4 * k + j) 0 < 256 := by
        intro j hj
        refine hb _ ?_
        simp [List.getElem?_eq_getElem (show 4 * k + j < xs.length by omega)]
      have c0 := cell 0 (by omega)
      have c1 := cell 1 (by omega)
      have c2 := cell 2 (by omega)
      have c3 := cell 3 (by omega)
      have b0 := byte 0 (by omega)
      have b1 := byte 1 (by omega)
      have b2 := byte 2 (by omega)
      have b3 := byte 3 (by omega)
      have HW : Hid ((if great = true then ((four (xs.getD (4 * k + 0) 0).toNat (xs.getD (4 * k + 1) 0).toNat (xs.getD (4 * k + 2) 0).toNat (xs.getD (4 * k + 3) 0).toNat : Nat) : Int) else (four (xs.getD (4 * k + 3) 0).toNat (xs.getD (4 * k + 2) 0).toNat (xs.getD (4 * k + 1) 0).toNat (xs.getD (4 * k + 0) 0).toNat : Nat)) = wordAt great xs k) := rfl
      generalize xs.getD (4 * k + 0) 0 = y0 at c0 b0 HW
      generalize xs.getD (4 * k + 1) 0 = y1 at c1 b1 HW
      generalize xs.getD (4 * k + 2) 0 = y2 at c2 b2 HW
      generalize xs.getD (4 * k + 3) 0 = y3 at c3 b3 HW
      have hnext : Hid (∀ q, (0 < n - 4 * (k + 1) → q = some ⟨b, o + 4, none⟩) → BytesIn w q (n - 4 * (k + 1)) (xs.drop (4 * (k + 1)))) := by
        intro q hq hp
        refine ⟨b, o + 4, hq hp, fun i hi => ?_⟩
        rw [show o + 4 + i = o + (4 + i) by omega, hcell (4 + i) (by omega)]
        simp [List.getD]
        rw [show 4 * k + (4 + i) = 4 * (k + 1) + i by omega]
      clear cell byte hcell hin
      obtain ⟨m, hm⟩ : ∃ m, n - 4 * k = m := ⟨_, rfl⟩
      rw [hm] at hlt hcc ⊢
      simp only [Nat.add_zero] at c0
      have hat : ∀ w, (Instr.arrayAt 266 (.slice (some ⟨b, o, none⟩) m cc)).run Tryz.prog w = .ok (.pointer (some ⟨b, o, none⟩)) w := fun w => run_arrayAt w 266 _ 4 _ m cc Tryz.underlying266 hlt
      go_wp2_with (fail)
      refine (readWord_any great _ y0 y1 y2 y3 b0 b1 b2 b3).mono ?_
      rintro e w2 ⟨rfl, hb2⟩
      rw [HW.out]
      have HN : Hid (wordsL great xs k ++ [wordAt great xs k] = wordsL great xs (k + 1)) := wordsL_step great xs k
      clear HW c0 c1 c2 c3 b0 b1 b2 b3
      generalize wordAt great xs k = u at HN ⊢
      replace hown := owns_below hown hb2
      replace hbel := below_on hbel hb2
      clear hb2 hsz
      have hsz := hbel.size
      go_wp2_with (at_builtin; refine list_pushI hi hz0 hz1 hz2 (.tmp 15) (.tmp 21) 177 Tryz.underlying177 _ hown (by omega) hsz (by rfl) (by rfl) (by rfl) (by rfl) ?_; intro g cap w1 ho1 hb1; rw [HN.out] at ho1)
      go_roundw
      case rel => exact ⟨k + 1, _, _, by omega, by rw [show n - 4 * (k + 1) = m - 4 by omega], by omega, hnext.out _ (fun hp => if_neg (by omega)), ho1, hbel.trans hb1⟩
      case measure => show m - 4 < m; omega
    · have hkn : n / 4 = k := by omega
      rw [hkn]
      obtain ⟨p', c', hv⟩ := owns_form hown
      subst hv
      obtain ⟨m, hm⟩ : ∃ m, n - 4 * k = m := ⟨_, rfl⟩
      rw [hm] at hlt hcc ⊢
      clear hin
      go_wp2
      go_ret
      rw [hkn]
      exact ⟨_, _, rfl, .of hown, hbel⟩

theorem or_four (x0 x1 x2 x3 : Nat) (h0 : x0 < 256) (h1 : x1 < 256) (h2 : x2 < 256) (h3 : x3 < 256) :
    bits .or .i64 (bits .or .i64 (bits .or .i64 ((x0 : Int) * 16777216) ((x1 : Int) * 65536)) ((x2 : Int) * 256)) (x3 : Int) = ((four x0 x1 x2 x3 : Nat) : Int) := by
  have a1 : ((x0 : Int) * 16777216) = ((2 ^ 24 * x0 : Nat) : Int) := by omega
  have a2 : ((x1 : Int) * 65536) = ((2 ^ 16 * x1 : Nat) : Int) := by omega
  have a3 : ((x2 : Int) * 256) = ((2 ^ 8 * x2 : Nat) : Int) := by omega
  rw [a1, a2, a3, i64_or _ _ (by omega) (by omega), ← Nat.two_pow_add_eq_or_of_lt (show 2 ^ 16 * x1 < 2 ^ 24 by omega), i64_or _ _ (by omega) (by omega)]
  rw [show 2 ^ 24 * x0 + 2 ^ 16 * x1 = 2 ^ 16 * (2 ^ 8 * x0 + x1) by omega, ← Nat.two_pow_add_eq_or_of_lt (show 2 ^ 8 * x2 < 2 ^ 16 by omega), i64_or _ _ (by omega) (by omega)]
  rw [show 2 ^ 16 * (2 ^ 8 * x0 + x1) + 2 ^ 8 * x2 = 2 ^ 8 * (2 ^ 8 * (2 ^ 8 * x0 + x1) + x2) by omega, ← Nat.two_pow_add_eq_or_of_lt (show x3 < 2 ^ 8 by omega)]
  unfold four
  omega

theorem or_fourW (x0 x1 x2 x3 : Nat) (h0 : x0 < 256) (h1 : x1 < 256) (h2 : x2 < 256) (h3 : x3 < 256) :
    bits .or .i64 (bits .or .i64 (bits .or .i64 (IntKind.i64.wrap (IntKind.i64.wrap (x0 : Int) * 16777216)) (IntKind.i64.wrap (IntKind.i64.wrap (x1 : Int) * 65536))) (IntKind.i64.wrap (IntKind.i64.wrap (x2 : Int) * 256))) (IntKind.i64.wrap (x3 : Int)) = ((four x0 x1 x2 x3 : Nat) : Int) := by
  have e : ∀ z : Int, 0 ≤ z → z < 9223372036854775808 → IntKind.i64.wrap z = z := fun z _ _ => by rw [IntKind.wrap_i64]; omega
  rw [e (x0 : Int) (by omega) (by omega), e (x1 : Int) (by omega) (by omega), e (x2 : Int) (by omega) (by omega), e (x3 : Int) (by omega) (by omega), e _ (by omega) (by omega), e _ (by omega) (by omega), e _ (by omega) (by omega)]
  exact or_four x0 x1 x2 x3 h0 h1 h2 h3

set_option maxHeartbeats 4000000 in
theorem specWords_any (p : Option Addr) (n c : Nat) (great : Bool) (xs : List Int) (w : World) (hn : n ≤ 1099511627776) (hx : xs.length = n) (h : BytesIn w p n xs) (hb : ∀ x ∈ xs, 0 ≤ x ∧ x < 256) :
    Calls Tryz.prog 143 #[.slice p n c, .bool great] w fun e w' => ∃ p' c', e = .returned (.slice p' (n / 4) c') ∧ OwnI 3 w' w.heap.size w'.heap.size (.slice p' (n / 4) c') (n / 4) (wordsL great xs (n / 4)) ∧ Below w.heap.size w w' := by
  obtain ⟨i0, hi, hz0, hz1, hz2⟩ := info_parts infoInt
  go_enter Tryz.func143, Tryz.ntmps143
  go_wp2
  go_loopw [5, 6] (fun v i wr => ∃ k : Nat, 4 * k ≤ n ∧ i = .int .i64 ((4 * k : Nat) : Int) ∧ wr.ownsRow w.heap.size 3 1 v k ((wordsL great xs k).map (Value.int .i64)) ∧ Below w.heap.size w wr)
    (fun _ i _ => n + 4 - (intOf i).toNat)
  case atStart => exact ⟨0, by omega, rfl, World.ownsRow_made w #[] 0 (Nat.le_refl _) (by unfold maxLen; omega) rfl, (Below.refl _ _).alloc (Nat.le_refl _) _⟩
  case round =>
    obtain ⟨k, hk, rfl, hown, hbel⟩ := hrel
    have hsz := hbel.size
    by_cases hlt : 4 * k + 3 < n
    · obtain ⟨b, o, rfl, hcell⟩ := h (by omega)
      have cell : ∀ j, j < 4 → ∃ z : Nat, z < 256 ∧ wr.cell? ⟨b, o + (4 * k + j), none⟩ = some (.int .u8 (z : Int)) ∧ xs.getD (4 * k + j) 0 = (z : Int) := by
        intro j hj
        have hbyte : 0 ≤ xs.getD (4 * k + j) 0 ∧ xs.getD (4 * k + j) 0 < 256 := by
          refine hb _ ?_
          simp [List.getElem?_eq_getElem (show 4 * k + j < xs.length by omega)]
        refine ⟨(xs.getD (4 * k + j) 0).toNat, by omega, ?_, by omega⟩
        rw [hbel.cell (p := ⟨b, o + (4 * k + j), none⟩) (World.block_lt_of_cell? w ⟨b, o + (4 * k + j), none⟩ (hcell _ (by omega))), hcell _ (by omega), Int.toNat_of_nonneg hbyte.1]
      obtain ⟨z0, h0, c0, e0⟩ := cell 0 (by omega)
      obtain ⟨z1, h1, c1, e1⟩ := cell 1 (by omega)
      obtain ⟨z2, h2, c2, e2⟩ := cell 2 (by omega)
      obtain ⟨z3, h3, c3, e3⟩ := cell 3 (by omega)
      have HN : Hid (wordsL great xs k ++ [if great = true then ((four z0 z1 z2 z3 : Nat) : Int) else ((four z3 z2 z1 z0 : Nat) : Int)] = wordsL great xs (k + 1)) := by
        rw [Hid, ← wordsL_step great xs k]
        simp only [wordAt, e0, e1, e2, e3, Int.toNat_natCast]
      have h00 := hcell 0 (by omega)
      simp only [Nat.add_zero] at h00
      clear cell e0 e1 e2 e3 hcell h hb
      simp only [Nat.add_zero] at c0
      have hblt : b < w.heap.size := World.block_lt_of_cell? w ⟨b, o, none⟩ h00
      obtain ⟨j, hj⟩ : ∃ j, 4 * k = j := ⟨_, rfl⟩
      rw [hj] at c0 c1 c2 c3 hlt ⊢
      have l0 : j < n := by omega
      obtain ⟨j1, hj1⟩ : ∃ j1, j + 1 = j1 := ⟨_, rfl⟩
      obtain ⟨j2, hj2⟩ : ∃ j2, j + 2 = j2 := ⟨_, rfl⟩
      obtain ⟨j3, hj3⟩ : ∃ j3, j + 3 = j3 := ⟨_, rfl⟩
      rw [hj1] at c1
      rw [hj2] at c2
      rw [hj3] at c3
      have l1 : j1 < n := by omega
      have l2 : j2 < n := by omega
      have l3 : j3 < n := by omega
      have v1 : IntKind.i64.wrap ((j : Int) + 1) = (j1 : Int) := by rw [IntKind.wrap_i64]; omega
      have v2 : IntKind.i64.wrap ((j : Int) + 2) = (j2 : Int) := by rw [IntKind.wrap_i64]; omega
      have v3 : IntKind.i64.wrap ((j : Int) + 3) = (j3 : Int) := by rw [IntKind.wrap_i64]; omega
      have HK : ∀ w', Below w.heap.size wr w' → w'.cell? ⟨b, o + j, none⟩ = some (.int .u8 (z0 : Int)) ∧ w'.cell? ⟨b, o + j1, none⟩ = some (.int .u8 (z1 : Int)) ∧ w'.cell? ⟨b, o + j2, none⟩ = some (.int .u8 (z2 : Int)) ∧ w'.cell? ⟨b, o + j3, none⟩ = some (.int .u8 (z3 : Int)) := fun w' hB => ⟨(hB.cell (p := ⟨b, o + j, none⟩) hblt).trans c0, (hB.cell (p := ⟨b, o + j1, none⟩) hblt).trans c1, (hB.cell (p := ⟨b, o + j2, none⟩) hblt).trans c2, (hB.cell (p := ⟨b, o + j3, none⟩) hblt).trans c3⟩
      cases great
      all_goals simp only [if_true, Bool.false_eq_true, if_false] at HN
      · have HO := or_fourW z3 z2 z1 z0 h3 h2 h1 h0
        go_wp2
        go_region_held3 (fun w' => w'.cell? ⟨b, o + j, none⟩ = some (.int .u8 (z0 : Int)) ∧ w'.cell? ⟨b, o + j1, none⟩ = some (.int .u8 (z1 : Int)) ∧ w'.cell? ⟨b, o + j2, none⟩ = some (.int .u8 (z2 : Int)) ∧ w'.cell? ⟨b, o + j3, none⟩ = some (.int .u8 (z3 : Int))) (first | exact HK _ (Below.refl _ _) | exact HK _ (Below.refl _ _).drew | exact HK _ ((Below.refl _ _).drew.alloc hsz _) | exact HK _ ((Below.refl _ _).alloc hsz _) | exact HK _ hb1 | exact HK _ hb1.drew) (first | (refine step_pushI hi hz0 hz1 hz2 (.tmp 48) (.tmp 78) 177 Tryz.underlying177 _ hown (by omega) hsz (by rfl) (by rfl) (by rfl) (by rfl) ?_; intro g cap w1 ho1 hb1))
        rw [HN.out] at ho1
        go_wp2
        go_roundw
        case rel => exact ⟨k + 1, by omega, by go_num, ho1, hbel.trans hb1⟩
        case measure => simp [intOf]; omega
      · have HO := or_fourW z0 z1 z2 z3 h0 h1 h2 h3
        go_wp2
        go_region_held3 (fun w' => w'.cell? ⟨b, o + j, none⟩ = some (.int .u8 (z0 : Int)) ∧ w'.cell? ⟨b, o + j1, none⟩ = some (.int .u8 (z1 : Int)) ∧ w'.cell? ⟨b, o + j2, none⟩ = some (.int .u8 (z2 : Int)) ∧ w'.cell? ⟨b, o + j3, none⟩ = some (.int .u8 (z3 : Int))) (first | exact HK _ (Below.refl _ _) | exact HK _ (Below.refl _ _).drew | exact HK _ ((Below.refl _ _).drew.alloc hsz _) | exact HK _ ((Below.refl _ _).alloc hsz _) | exact HK _ hb1 | exact HK _ hb1.drew) (first | (refine step_pushI hi hz0 hz1 hz2 (.tmp 16) (.tmp 46) 177 Tryz.underlying177 _ hown (by omega) hsz (by rfl) (by rfl) (by rfl) (by rfl) ?_; intro g cap w1 ho1 hb1))
        rw [HN.out] at ho1
        go_wp2
        go_roundw
        case rel => exact ⟨k + 1, by omega, by go_num, ho1, hbel.trans hb1⟩
        case measure => simp [intOf]; omega
    · have hkn : n / 4 = k := by omega
      obtain ⟨p', c', hv⟩ := owns_form hown
      subst hv
      obtain ⟨j, hj⟩ : ∃ j, 4 * k = j := ⟨_, rfl⟩
      rw [hj] at hlt ⊢
      clear h hb
      go_wp2
      go_ret
      rw [hkn]
      exact ⟨_, _, rfl, .of hown, hbel⟩

end Go.Proofs.YthfnechcddmjkaaGreatDoor

namespace Go.Proofs.YthfnechcddmjkaaGreatDoor
open Go.RowKit
set_option maxRecDepth 100000

def natsL (l : List Nat) : List Int := l.map fun (n : Nat) => (n : Int)
theorem natsL_length (l : List Nat) : (natsL l).length = l.length := by simp [natsL]
theorem natsL_getD (l : List Nat) (i : Nat) : (natsL l).getD i 0 = ((l.getD i 0 : Nat) : Int) := by
  simp only [natsL, List.getD_eq_getElem?_getD, List.getElem?_map]
  cases l[i]? <;> rfl

def wsOf (xs : List Int) : List Nat := (wordsL true xs 16).map Int.toNat
theorem wsOf_length (xs : List Int) : (wsOf xs).length = 16 := by simp [wsOf, wordsL_length]
theorem wsOf_nats (xs : List Int) : natsL (wsOf xs) = wordsL true xs 16 := by
  simp only [natsL, wsOf, wordsL, List.map_map]
  apply List.map_congr_left
  intro i _
  simp [wordAt]
theorem byte_lt {xs : List Int} (hb : ∀ x ∈ xs, 0 ≤ x ∧ x < 256) (i : Nat) : (xs.getD i 0).toNat < 256 := by
  rw [List.getD_eq_getElem?_getD]
  cases e : xs[i]? with
  | none => decide
  | some v =>
    have := hb v (List.mem_of_getElem? e)
    simp only [Option.getD_some]
    omega
theorem wsOf_lt {xs : List Int} (hb : ∀ x ∈ xs, 0 ≤ x ∧ x < 256) : ∀ x ∈ wsOf xs, x < 4294967296 := by
  intro x hx
  simp only [wsOf, wordsL, List.map_map, List.mem_map, Function.comp] at hx
  obtain ⟨i, _, rfl⟩ := hx
  have h0 := byte_lt hb (4 * i + 0)
  have h1 := byte_lt hb (4 * i + 1)
  have h2 := byte_lt hb (4 * i + 2)
  have h3 := byte_lt hb (4 * i + 3)
  simp only [wordAt, if_true, Int.toNat_natCast, four]
  omega

theorem ownsI_lit (w : World) (ty : Nat) (cs : Array Value) (n : Nat) (xs : List Int) (h : cs.toList = xs.map (Value.int .i64)) (hn : xs.length = n) (hm : n ≤ maxLen) :
    OwnI ty (w.alloc (.cells cs ty)) w.heap.size (w.heap.size + 1) (.slice (some ⟨w.heap.size, 0, none⟩) n n) n xs := by
  have hs : cs.size = n := by rw [← Array.length_toList, h, List.length_map, hn]
  refine ⟨⟨by simp [hn], .inr ⟨w.heap.size, n, cs, rfl, Nat.le_refl _, heap_alloc_new w _, Nat.le_refl _, hm, by simp [hs], ?_⟩⟩, ?_⟩
  · rw [h, List.take_of_length_le (by simp [hn])]
  · intro k hk
    simp [Value.ownBlock] at hk
    omega

theorem l3Table_any (w : World) :
    Calls Tryz.prog 195 #[] w fun e w' => ∃ p c, e = .returned (.slice p 64 c) ∧ OwnI 3 w' w.heap.size w'.heap.size (.slice p 64 c) 64 (natsL keysL) ∧ Below w.heap.size w w' := by
  go_enter Tryz.func195, Tryz.ntmps195
  go_wp2
  go_ret
  refine ⟨_, _, rfl, ?_, (Below.refl _ _).alloc (Nat.le_refl _) _⟩
  have h := ownsI_lit w 3 ((natsL keysL).map (Value.int .i64)).toArray 64 (natsL keysL) (by simp) (by simp [natsL, keysL]) (by unfold maxLen; omega)
  simpa [natsL, keysL] using h

theorem specWords64 (p : Option Addr) (c : Nat) (xs : List Int) (w : World) (hx : xs.length = 64) (h : BytesIn w p 64 xs) (hb : ∀ x ∈ xs, 0 ≤ x ∧ x < 256) :
    Calls Tryz.prog 143 #[.slice p 64 c, .bool true] w fun e w' => ∃ p' c', e = .returned (.slice p' 16 c') ∧ OwnI 3 w' w.heap.size w'.heap.size (.slice p' 16 c') 16 (natsL (wsOf xs)) ∧ Below w.heap.size w w' := by
  rw [wsOf_nats]
  exact specWords_any p 64 c true xs w (by omega) hx h hb

theorem more_step (l : List Nat) (k : Nat) (u : Nat) (hu : u = nextN (moreN l k) (16 + k)) : natsL (moreN l k) ++ [(u : Int)] = natsL (moreN l (k + 1)) := by
  subst hu
  simp [natsL, moreN]

set_option maxHeartbeats 4000000 in
theorem l3More_any (p : Option Addr) (c : Nat) (xs : List Int) (w : World) (hx : xs.length = 64) (h : BytesIn w p 64 xs) (hb : ∀ x ∈ xs, 0 ≤ x ∧ x < 256) :
    Calls Tryz.prog 194 #[.slice p 64 c] w fun e w' => ∃ p' c', e = .returned (.slice p' 64 c') ∧ OwnI 3 w' w.heap.size w'.heap.size (.slice p' 64 c') 64 (natsL (spreadN (wsOf xs))) ∧ Below w.heap.size w w' := by
  obtain ⟨i0, hi, hz0, hz1, hz2⟩ := info_parts infoInt
  have hwl := wsOf_length xs
  have hwt := wsOf_lt hb
  have C := fun w h => specWords64 p c xs w hx h hb
  unfold spreadN
  generalize wsOf xs = ws at hwl hwt C ⊢
  go_enter Tryz.func194, Tryz.ntmps194
  go_wp2_with (fail)
  refine (C _ h).mono ?_
  rintro e w1 ⟨p1, c1, rfl, r1, b1⟩
  have ho1 := r1.1
  clear C h hb hx r1
  go_wp2_with (fail)
  go_loopw [3, 4] (fun v i wr => ∃ k t : Nat, t = 16 + k ∧ k ≤ 48 ∧ i = .int .i64 t ∧ wr.ownsRow w.heap.size 3 1 v t ((natsL (moreN ws k)).map (Value.int .i64)) ∧ Below w.heap.size w wr)
    (fun _ i _ => 64 - (intOf i).toNat)
  case atStart => exact ⟨0, 16, rfl, by omega, rfl, ho1, b1⟩
  case round =>
    clear ho1 b1
    obtain ⟨k, t, ht, hk, rfl, hown, hbel⟩ := hrel
    have hsz := hbel.size
    by_cases hlt : k < 48
    · obtain ⟨p', cap0, hv⟩ := owns_form hown
      subst hv
      obtain ⟨g0, rfl⟩ := owns_at hown (by omega)
      have hg0 := (hown.lt g0 rfl).2
      have hml := moreN_lt hwt k
      have cell : ∀ j, j < t → wr.cell? ⟨g0, j, none⟩ = some (.int .i64 (((moreN ws k).getD j 0 : Nat) : Int)) := by
        intro j hj
        have hl2 : (moreN ws k).length = t := by rw [moreN_length, hwl, ht]
        rw [hown.cellAt j (by omega), ← natsL_getD, List.getElem?_map, List.getD_eq_getElem?_getD, List.getElem?_eq_getElem (by rw [natsL_length]; omega)]
        rfl
      obtain ⟨j2, hj2⟩ : ∃ j2, t = j2 + 2 := ⟨t - 2, by omega⟩
      obtain ⟨j7, hj7⟩ : ∃ j7, t = j7 + 7 := ⟨t - 7, by omega⟩
      obtain ⟨j15, hj15⟩ : ∃ j15, t = j15 + 15 := ⟨t - 15, by omega⟩
      obtain ⟨j16, hj16⟩ : ∃ j16, t = j16 + 16 := ⟨t - 16, by omega⟩
      have l2 : j2 < t := by omega
      have l7 : j7 < t := by omega
      have l15 : j15 < t := by omega
      have l16 : j16 < t := by omega
      have d2 := cell j2 l2
      have d7 := cell j7 l7
      have d15 := cell j15 l15
      have d16 := cell j16 l16
      have m2 := getD_lt hml (by decide) j2
      have m7 := getD_lt hml (by decide) j7
      have m15 := getD_lt hml (by decide) j15
      have m16 := getD_lt hml (by decide) j16
      have HU : Hid (∀ u, u = (smallN ((moreN ws k).getD j2 0) 17 19 10 + (moreN ws k).getD j7 0 + smallN ((moreN ws k).getD j15 0) 7 18 3 + (moreN ws k).getD j16 0) % 4294967296 → natsL (moreN ws k) ++ [(u : Int)] = natsL (moreN ws (k + 1))) := by
        intro u hu
        refine more_step ws k u ?_
        unfold nextN
        rw [← ht, show t - 2 = j2 by omega, show t - 7 = j7 by omega, show t - 15 = j15 by omega, show t - 16 = j16 by omega]
        exact hu
      clear cell hml
      generalize (moreN ws k).getD j2 0 = a2 at d2 m2 HU
      generalize (moreN ws k).getD j7 0 = a7 at d7 m7 HU
      generalize (moreN ws k).getD j15 0 = a15 at d15 m15 HU
      generalize (moreN ws k).getD j16 0 = a16 at d16 m16 HU
      have C1 := fun w => l3Mix_s1 a2 w m2
      have C0 := fun w => l3Mix_s0 a15 w m15
      have n1 := smallN_lt (a := 17) (b := 19) (c := 10) m2 (by decide) (by decide)
      have n0 := smallN_lt (a := 7) (b := 18) (c := 3) m15 (by decide) (by decide)
      generalize smallN a2 17 19 10 = r1 at C1 n1 HU
      generalize smallN a15 7 18 3 = r0 at C0 n0 HU
      obtain ⟨u, hu⟩ : ∃ u, u = (r1 + a7 + r0 + a16) % 4294967296 := ⟨_, rfl⟩
      have HN : Hid (natsL (moreN ws k) ++ [(u : Int)] = natsL (moreN ws (k + 1))) := HU.out u hu
      have CW : ∀ w, Calls Tryz.prog 196 #[.int .i64 ((r1 : Int) + a7 + r0 + a16)] w fun e w' => e = .returned (.int .i64 (u : Int)) ∧ w' = w := by
        intro w
        have := specWord_same ((r1 : Int) + a7 + r0 + a16) w
        rw [show ((r1 : Int) + a7 + r0 + a16) % 4294967296 = (u : Int) by omega] at this
        exact this
      have HK : ∀ w', Below wr.heap.size wr w' → w'.cell? ⟨g0, j2, none⟩ = some (.int .i64 (a2 : Int)) ∧ w'.cell? ⟨g0, j7, none⟩ = some (.int .i64 (a7 : Int)) ∧ w'.cell? ⟨g0, j15, none⟩ = some (.int .i64 (a15 : Int)) ∧ w'.cell? ⟨g0, j16, none⟩ = some (.int .i64 (a16 : Int)) := fun w' hB => ⟨(hB.cell (p := ⟨g0, j2, none⟩) hg0).trans d2, (hB.cell (p := ⟨g0, j7, none⟩) hg0).trans d7, (hB.cell (p := ⟨g0, j15, none⟩) hg0).trans d15, (hB.cell (p := ⟨g0, j16, none⟩) hg0).trans d16⟩
      have v2 : IntKind.i64.wrap ((t : Int) - 2) = (j2 : Int) := by rw [IntKind.wrap_i64]; omega
      have v7 : IntKind.i64.wrap ((t : Int) - 7) = (j7 : Int) := by rw [IntKind.wrap_i64]; omega
      have v15 : IntKind.i64.wrap ((t : Int) - 15) = (j15 : Int) := by rw [IntKind.wrap_i64]; omega
      have v16 : IntKind.i64.wrap ((t : Int) - 16) = (j16 : Int) := by rw [IntKind.wrap_i64]; omega
      have q1 : IntKind.i64.wrap ((r1 : Int) + a7) = (r1 : Int) + a7 := by rw [IntKind.wrap_i64]; omega
      have q2 : IntKind.i64.wrap ((r1 : Int) + a7 + r0) = (r1 : Int) + a7 + r0 := by rw [IntKind.wrap_i64]; omega
      have q3 : IntKind.i64.wrap ((r1 : Int) + a7 + r0 + a16) = (r1 : Int) + a7 + r0 + a16 := by rw [IntKind.wrap_i64]; omega
      clear HU hu d2 d7 d15 d16
      have htl : t < 64 := by omega
      have HT : Hid (t = 16 + k) := ht
      clear hj2 hj7 hj15 hj16 ht
      go_wp2_with (fail)
      go_region_held3 (fun w' => w'.cell? ⟨g0, j2, none⟩ = some (.int .i64 (a2 : Int)) ∧ w'.cell? ⟨g0, j7, none⟩ = some (.int .i64 (a7 : Int)) ∧ w'.cell? ⟨g0, j15, none⟩ = some (.int .i64 (a15 : Int)) ∧ w'.cell? ⟨g0, j16, none⟩ = some (.int .i64 (a16 : Int)))
        (first | exact hS3 | exact HK _ e2 | exact HK _ e1 | exact HK _ (e2.alloc e2.size _) | exact HK _ (Below.refl _ _) | exact HK _ (Below.refl _ _).drew)
        (first | (go_at_call_of 197 a2; refine (C1 _).mono ?_; rintro e w1 ⟨rfl, dn1, hw1⟩; have e1 : Below wr.heap.size wr w1 := (by rw [hw1]; exact below_drewN (Below.refl _ _).drew _); clear hw1) | (go_at_call_of 197 a15; refine (C0 _).mono ?_; rintro e w2 ⟨rfl, dn2, hw2⟩; have e2 : Below wr.heap.size wr w2 := (by rw [hw2]; exact below_drewN e1 _); clear hw2) | (go_at_call 196; refine (CW _).mono ?_; rintro e w3 ⟨rfl, rfl⟩) | (refine step_pushKeep hi hz0 hz1 hz2 (.tmp 11) (.tmp 38) 177 Tryz.underlying177 (u : Int) g0 cap0 _ (heap_alloc_new _ _) ((owns_below hown e2).alloc _) (by omega) (by have := e2.size; simp; omega) (by rfl) (by rfl) (by rfl) (by rfl) ?_; intro g cap w4 ho4 hb4 hk4; have hS3 := And.intro ((hk4 j2 l2).trans (HK _ (e2.alloc e2.size _)).1) (And.intro ((hk4 j7 l7).trans (HK _ (e2.alloc e2.size _)).2.1) (And.intro ((hk4 j15 l15).trans (HK _ (e2.alloc e2.size _)).2.2.1) ((hk4 j16 l16).trans (HK _ (e2.alloc e2.size _)).2.2.2)))))
      rw [HN.out] at ho4
      go_wp2
      go_roundw
      case rel => exact ⟨k + 1, t + 1, by have := HT.out; omega, by omega, by go_num, ho4, (below_on hbel (e2.alloc e2.size _)).trans hb4⟩
      case measure => simp [intOf]; omega
    · obtain rfl : k = 48 := by omega
      obtain rfl : t = 64 := by omega
      obtain ⟨p', c', hv⟩ := owns_form hown
      subst hv
      go_wp2
      go_ret
      exact ⟨_, _, rfl, .of hown, hbel⟩

end Go.Proofs.YthfnechcddmjkaaGreatDoor

namespace Go.Proofs.YthfnechcddmjkaaGreatDoor
open Go.RowKit

def wordsN (ys : List Int) : List Nat := ys.map wordN
theorem wordsN_length (ys : List Int) : (wordsN ys).length = ys.length := by simp [wordsN]
theorem wordsN_lt (ys : List Int) : ∀ x ∈ wordsN ys, x < 4294967296 := by
  intro x hx
  simp only [wordsN, List.mem_map] at hx
  obtain ⟨y, _, rfl⟩ := hx
  exact wordN_lt y
theorem wordsN_getD (ys : List Int) (i : Nat) : (wordsN ys).getD i 0 = wordN (ys.getD i 0) := by
  simp only [wordsN, List.getD_eq_getElem?_getD, List.getElem?_map]
  cases ys[i]? <;> rfl
def hbN (n m : Nat) : Nat := if n = 8 ∧ m = 64 then 8 else 0
def hbL (ys xs : List Int) : List Int := if ys.length = 8 ∧ xs.length = 64 then natsL (blockN (wsOf xs) (wordsN ys)) else []

theorem word_is (y : Int) (s : Nat) (h : wordN y = s) (w : World) : Calls Tryz.prog 196 #[.int .i64 y] w fun e w' => e = .returned (.int .i64 (s : Int)) ∧ w' = w := by
  subst h
  rw [wordN_eq]
  exact specWord_same y w

theorem take_next (L : List Int) (k : Nat) (u : Int) (hk : k < L.length) (hu : u = L.getD k 0) : L.take k ++ [u] = L.take (k + 1) := by
  subst hu
  rw [List.take_succ_eq_append_getElem hk]
  simp [List.getElem?_eq_getElem hk]

theorem addL_getD (xs ys : List Nat) (k : Nat) (hk : k < 8) : (addL xs ys).getD k 0 = (xs.getD k 0 + ys.getD k 0) % 4294967296 := by
  simp [addL, hk]

set_option maxRecDepth 100000 in
set_option maxHeartbeats 16000000 in
theorem specHashBlock_yes (p q : Option Addr) (c d : Nat) (ys xs : List Int) (w : World) (hx : xs.length = 64) (h : IntsIn w p 8 ys) (h' : BytesIn w q 64 xs) (hb : ∀ x ∈ xs, 0 ≤ x ∧ x < 256) :
    Calls Tryz.prog 171 #[.slice p 8 c, .slice q 64 d] w fun e w' => ∃ p' c', e = .returned (.slice p' 8 c') ∧ OwnI 3 w' w.heap.size w'.heap.size (.slice p' 8 c') 8 (natsL (blockN (wsOf xs) (wordsN ys))) ∧ Below w.heap.size w w' := by
  obtain ⟨i0, hi, hz0, hz1, hz2⟩ := info_parts infoInt
  have C := fun w h => l3More_any q d xs w hx h hb
  have hWl := spreadN_length (wsOf_length xs)
  have hWt := spreadN_lt (wsOf_lt hb)
  have hblock : Hid (blockN (wsOf xs) (wordsN ys) = addL (wordsN ys) (roundsN (spreadN (wsOf xs)) (stOf (wordsN ys)) 64).list) := rfl
  obtain ⟨L, hL⟩ : ∃ L, L = blockN (wsOf xs) (wordsN ys) := ⟨_, rfl⟩
  rw [← hL] at hblock ⊢
  clear hL
  generalize spreadN (wsOf xs) = W at C hWl hWt hblock
  obtain ⟨b, o, rfl, hcell⟩ := h (by omega)
  have hblt : b < w.heap.size := World.block_lt_of_cell? w ⟨b, o + 0, none⟩ (hcell 0 (by omega))
  have hok := stOf_ok (wordsN_lt ys)
  have hst : Hid (stOf (wordsN ys) = ⟨wordN (ys.getD 0 0), wordN (ys.getD 1 0), wordN (ys.getD 2 0), wordN (ys.getD 3 0), wordN (ys.getD 4 0), wordN (ys.getD 5 0), wordN (ys.getD 6 0), wordN (ys.getD 7 0)⟩) := by
    simp only [Hid, stOf, wordsN_getD]
  go_enter Tryz.func171, Tryz.ntmps171
  go_wp2_with (fail)
  refine (C _ h').mono ?_
  rintro e w1 ⟨p1, c1, rfl, r1, b1⟩
  clear C h'
  go_wp2_with (fail)
  refine (l3Table_any _).mono ?_
  rintro e w2 ⟨p2, c2, rfl, r2, b2⟩
  have bel : Below w.heap.size w w2 := below_on b1 b2
  have inW := (r1.on b2).ints
  have inK := r2.ints
  clear r1 r2 b1 b2
  have hsz := bel.size
  have cs : ∀ i, i < 8 → w2.cell? ⟨b, o + i, none⟩ = some (.int .i64 (ys.getD i 0)) := fun i hi => (bel.cell (p := ⟨b, o + i, none⟩) hblt).trans (hcell i hi)
  have y0 := cs 0 (by omega)
  have y1 := cs 1 (by omega)
  have y2 := cs 2 (by omega)
  have y3 := cs 3 (by omega)
  have y4 := cs 4 (by omega)
  have y5 := cs 5 (by omega)
  have y6 := cs 6 (by omega)
  have y7 := cs 7 (by omega)
  clear cs
  replace hcell : Hid (∀ i, i < 8 → w.cell? ⟨b, o + i, none⟩ = some (.int .i64 (ys.getD i 0))) := hcell
  have cw := fun i => word_is (ys.getD i 0) _ rfl
  have w0' := cw 0
  have w1' := cw 1
  have w2' := cw 2
  have w3' := cw 3
  have w4' := cw 4
  have w5' := cw 5
  have w6' := cw 6
  have w7' := cw 7
  clear cw
  rw [hst.out] at hok
  generalize hs0 : wordN (ys.getD 0 0) = s0 at w0' hst hok
  generalize hs1 : wordN (ys.getD 1 0) = s1 at w1' hst hok
  generalize hs2 : wordN (ys.getD 2 0) = s2 at w2' hst hok
  generalize hs3 : wordN (ys.getD 3 0) = s3 at w3' hst hok
  generalize hs4 : wordN (ys.getD 4 0) = s4 at w4' hst hok
  generalize hs5 : wordN (ys.getD 5 0) = s5 at w5' hst hok
  generalize hs6 : wordN (ys.getD 6 0) = s6 at w6' hst hok
  generalize hs7 : wordN (ys.getD 7 0) = s7 at w7' hst hok
  clear hs0 hs1 hs2 hs3 hs4 hs5 hs6 hs7
  generalize ys.getD 0 0 = z0 at y0 w0'
  generalize ys.getD 1 0 = z1 at y1 w1'
  generalize ys.getD 2 0 = z2 at y2 w2'
  generalize ys.getD 3 0 = z3 at y3 w3'
  generalize ys.getD 4 0 = z4 at y4 w4'
  generalize ys.getD 5 0 = z5 at y5 w5'
  generalize ys.getD 6 0 = z6 at y6 w6'
  generalize ys.getD 7 0 = z7 at y7 w7'
  simp only [Nat.add_zero] at y0
  go_wp2_with (fail)
  go_quiet (first | (go_at_call_of 196 z0; exact Calls.quiet_of_same (w0' _)) | (go_at_call_of 196 z1; exact Calls.quiet_of_same (w1' _)) | (go_at_call_of 196 z2; exact Calls.quiet_of_same (w2' _)) | (go_at_call_of 196 z3; exact Calls.quiet_of_same (w3' _)))
  clear w0' w1' w2' w3' y0 y1 y2 y3
  obtain ⟨w3, hw3⟩ : ∃ w3, w3 = w2.drewN nq := ⟨_, rfl⟩
  rw [← hw3]
  have bq : Below w2.heap.size w2 w3 := by rw [hw3]; exact below_drewN (Below.refl _ _) _
  clear hw3
  have hb2 : b < w2.heap.size := by omega
  replace y4 := (bq.cell (p := ⟨b, o + 4, none⟩) hb2).trans y4
  replace y5 := (bq.cell (p := ⟨b, o + 5, none⟩) hb2).trans y5
  replace y6 := (bq.cell (p := ⟨b, o + 6, none⟩) hb2).trans y6
  replace y7 := (bq.cell (p := ⟨b, o + 7, none⟩) hb2).trans y7
  replace inW := in_belowI inW bq
  replace inK := in_belowI inK bq
  replace bel := below_on bel bq
  clear bq hb2 hsz
  go_wp2_with (fail)
  go_quiet (first | (go_at_call_of 196 z4; exact Calls.quiet_of_same (w4' _)) | (go_at_call_of 196 z5; exact Calls.quiet_of_same (w5' _)) | (go_at_call_of 196 z6; exact Calls.quiet_of_same (w6' _)) | (go_at_call_of 196 z7; exact Calls.quiet_of_same (w7' _)))
  clear w4' w5' w6' w7' y4 y5 y6 y7
  obtain ⟨w4, hw4⟩ : ∃ w4, w4 = w3.drewN nq := ⟨_, rfl⟩
  rw [← hw4]
  have bq2 : Below w3.heap.size w3 w4 := by rw [hw4]; exact below_drewN (Below.refl _ _) _
  clear hw4
  go_wp2_with (fail)
  replace inW := in_belowI inW bq2
  replace inK := in_belowI inK bq2
  replace bel := below_on bel bq2
  have hsz := bel.size
  obtain ⟨bW, oW, rfl, cW⟩ := inW (by omega)
  obtain ⟨bK, oK, rfl, cK⟩ := inK (by omega)
  have hbW : bW < w4.heap.size := World.block_lt_of_cell? w4 ⟨bW, oW + 0, none⟩ (cW 0 (by omega))
  have hbK : bK < w4.heap.size := World.block_lt_of_cell? w4 ⟨bK, oK + 0, none⟩ (cK 0 (by omega))
  have HC : Hid (∀ i, i < 8 → w4.cell? ⟨b, o + i, none⟩ = some (.int .i64 (ys.getD i 0))) := fun i hi => (bel.cell (p := ⟨b, o + i, none⟩) hblt).trans (hcell.out i hi)
  clear inW inK bq2 hcell
  have hr0 : Hid (roundsN W (stOf (wordsN ys)) 0 = ⟨s0, s1, s2, s3, s4, s5, s6, s7⟩) := hst.out
  have hrok : ∀ t, (roundsN W (stOf (wordsN ys)) t).ok := roundsN_ok W (by rw [hst.out]; exact hok)
  clear hst hok
  go_loopw [7, 8, 9, 10, 11, 12, 13, 14, 15] (fun a b c d e f g h i wr => ∃ (t : Nat) (va vb vc vd ve vf vg vh : Nat), t ≤ 64 ∧ i = .int .i64 t ∧ a = .int .i64 va ∧ b = .int .i64 vb ∧ c = .int .i64 vc ∧ d = .int .i64 vd ∧ e = .int .i64 ve ∧ f = .int .i64 vf ∧ g = .int .i64 vg ∧ h = .int .i64 vh ∧ Hid (roundsN W (stOf (wordsN ys)) t = ⟨va, vb, vc, vd, ve, vf, vg, vh⟩) ∧ Below w4.heap.size w4 wr)
    (fun _ _ _ _ _ _ _ _ i _ => 64 - (intOf i).toNat)
  case atStart => exact ⟨0, s0, s1, s2, s3, s4, s5, s6, s7, by omega, rfl, rfl, rfl, rfl, rfl, rfl, rfl, rfl, rfl, hr0, Below.refl _ _⟩
  case round =>
    clear hr0
    obtain ⟨t, va, vb, vc, vd, ve, vf, vg, vh, ht, rfl, rfl, rfl, rfl, rfl, rfl, rfl, rfl, rfl, hr, hbl⟩ := hrel
    have hok := hrok t
    rw [hr.out] at hok
    obtain ⟨o1, o2, o3, o4, o5, o6, o7, o8⟩ := hok
    simp only at o1 o2 o3 o4 o5 o6 o7 o8
    by_cases hlt : t < 64
    · have kc := (hbl.cell (p := ⟨bK, oK + t, none⟩) hbK).trans (cK t hlt)
      have wc := (hbl.cell (p := ⟨bW, oW + t, none⟩) hbW).trans (cW t hlt)
      rw [natsL_getD] at kc wc
      have kl := getD_lt keysL_lt (by decide) t
      have wl := getD_lt hWt (by decide) t
      have HR : Hid (roundsN W (stOf (wordsN ys)) (t + 1) = stepN ⟨va, vb, vc, vd, ve, vf, vg, vh⟩ (keysL.getD t 0) (W.getD t 0)) := by rw [Hid, ← hr.out]; rfl
      simp only [stepN, t1N, t2N] at HR
      generalize keysL.getD t 0 = kt at kc kl HR
      generalize W.getD t 0 = wt at wc wl HR
      have hch := i64_ch o5 o6 o7
      have hmj := i64_maj o1 o2 o3
      have lch := chN_lt (e := ve) o6 o7
      have lmj := majN_lt (a := va) o2 o3
      have C1 := fun w => l3Mix_S1 ve w o5
      have C0 := fun w => l3Mix_S0 va w o1
      have n1 := greatN_lt (a := 6) (b := 11) (c := 25) o5 (by decide) (by decide) (by decide)
      have n0 := greatN_lt (a := 2) (b := 13) (c := 22) o1 (by decide) (by decide) (by decide)
      generalize chN ve vf vg = ch at hch lch HR
      generalize majN va vb vc = mj at hmj lmj HR
      generalize greatN ve 6 11 25 = r1 at C1 n1 HR
      generalize greatN va 2 13 22 = r0 at C0 n0 HR
      obtain ⟨E, hE⟩ : ∃ E : Nat, E = (vd + (vh + r1 + ch + kt + wt)) % 4294967296 := ⟨_, rfl⟩
      obtain ⟨A, hA⟩ : ∃ A : Nat, A = (vh + r1 + ch + kt + wt + (r0 + mj)) % 4294967296 := ⟨_, rfl⟩
      rw [← hE, ← hA] at HR
      have CE : ∀ w, Calls Tryz.prog 196 #[.int .i64 ((vd : Int) + ((vh : Int) + r1 + ch + kt + wt))] w fun e w' => e = .returned (.int .i64 (E : Int)) ∧ w' = w := word_is _ _ (by unfold wordN; omega)
      have CA : ∀ w, Calls Tryz.prog 196 #[.int .i64 ((vh : Int) + r1 + ch + kt + wt + ((r0 : Int) + mj))] w fun e w' => e = .returned (.int .i64 (A : Int)) ∧ w' = w := word_is _ _ (by unfold wordN; omega)
      clear hE hA hr
      go_wp2_with (fail)
      go_quiet ((go_at_call 197; exact Calls.quiet_of (C1 _)))
      go_wp2_with (fail)
      refine (C0 _).mono ?_
      rintro e w3 ⟨rfl, dn, rfl⟩
      go_wp2_with (fail)
      refine (CE _).mono ?_
      rintro e w3 ⟨rfl, rfl⟩
      go_wp2_with (fail)
      refine (CA _).mono ?_
      rintro e w3 ⟨rfl, rfl⟩
      go_wp2
      go_roundw
      case rel => exact ⟨t + 1, A, va, vb, vc, E, ve, vf, vg, by omega, by go_num, rfl, rfl, rfl, rfl, rfl, rfl, rfl, rfl, HR, below_drewN hbl _⟩
      case measure => simp [intOf]; omega
    · have e64 : t = 64 := by omega
      rw [e64] at hr
      clear e64
      rw [hr.out] at hblock
      simp only [HSt.list] at hblock
      have hblock2 : Hid (L = addL (wordsN ys) [va, vb, vc, vd, ve, vf, vg, vh]) := hblock.out
      clear hblock hr cK cW hrok
      have hLl : L.length = 8 := by rw [hblock2.out, addL_length]
      go_wp2_with (fail)
      obtain ⟨w5, hw5⟩ : ∃ w5, w5 = wr.alloc (.cells #[.int .i64 (va : Int), .int .i64 (vb : Int), .int .i64 (vc : Int), .int .i64 (vd : Int), .int .i64 (ve : Int), .int .i64 (vf : Int), .int .i64 (vg : Int), .int .i64 (vh : Int)] 3) := ⟨_, rfl⟩
      have hnow : OwnI 3 w5 wr.heap.size (wr.heap.size + 1) (.slice (some ⟨wr.heap.size, 0, none⟩) 8 8) 8 (natsL [va, vb, vc, vd, ve, vf, vg, vh]) := by
        rw [hw5]
        exact ownsI_lit wr 3 _ 8 _ (by simp [natsL]) rfl (by unfold maxLen; omega)
      have hb5 : Below w4.heap.size w4 w5 := by rw [hw5]; exact hbl.alloc hbl.size _
      have hs5 : w5.heap.size = wr.heap.size + 1 := by rw [hw5]; simp
      have hG : wr.heap.size < w5.heap.size := by omega
      rw [← hw5]
      clear hw5
      obtain ⟨b0, o0, hp0, hnc⟩ := hnow.ints (by omega)
      simp only [Option.some.injEq, Addr.mk.injEq, and_true] at hp0
      obtain ⟨rfl, rfl⟩ := hp0
      clear hnow
      replace hnc : Hid (∀ i, i < 8 → w5.cell? ⟨wr.heap.size, 0 + i, none⟩ = some (.int .i64 ((natsL [va, vb, vc, vd, ve, vf, vg, vh]).getD i 0))) := hnc
      generalize wr.heap.size = G at hG hnc hs5 ⊢
      rw [← hs5]
      clear hs5
      have HC5 : Hid (∀ i, i < 8 → w5.cell? ⟨b, o + i, none⟩ = some (.int .i64 (ys.getD i 0))) := fun i hi => (hb5.cell (p := ⟨b, o + i, none⟩) (show b < w4.heap.size by omega)).trans (HC.out i hi)
      have bel5 : Below w.heap.size w w5 := below_on bel hb5
      have hsz5 := bel5.size
      have hb5' : b < w5.heap.size := by omega
      have hwl : ∀ x ∈ [va, vb, vc, vd, ve, vf, vg, vh], x < 4294967296 := by
        intro x hx
        simp only [List.mem_cons, List.not_mem_nil, or_false] at hx
        omega
      generalize [va, vb, vc, vd, ve, vf, vg, vh] = now at hblock2 hnc hwl
      clear hbl hb5 HC bel hsz hbW hbK o1 o2 o3 o4 o5 o6 o7 o8 hWl hWt
      go_loopw [21, 22] (fun v i w6 => ∃ k : Nat, k ≤ 8 ∧ i = .int .i64 k ∧ w6.ownsRow w5.heap.size 3 1 v k (((natsL L).take k).map (Value.int .i64)) ∧ Below w5.heap.size w5 w6)
        (fun _ i _ => 8 - (intOf i).toNat)
      case atStart => exact ⟨0, by omega, rfl, World.ownsRow_made w5 #[] 0 (Nat.le_refl _) (by unfold maxLen; omega) rfl, (Below.refl _ _).alloc (Nat.le_refl _) _⟩
      case round =>
        obtain ⟨k, hk, rfl, hown, hbel⟩ := hrel
        have hsz6 := hbel.size
        by_cases hlt : k < 8
        · have cn := (hbel.cell (p := ⟨G, 0 + k, none⟩) hG).trans (hnc.out k hlt)
          have cy := (hbel.cell (p := ⟨b, o + k, none⟩) hb5').trans (HC5.out k hlt)
          rw [natsL_getD, Nat.zero_add] at cn
          have HN : Hid (∀ u : Nat, u = (wordN (ys.getD k 0) + now.getD k 0) % 4294967296 → (natsL L).take k ++ [(u : Int)] = (natsL L).take (k + 1)) := by
            intro u hu
            refine take_next _ _ _ (by rw [natsL_length, hLl]; exact hlt) ?_
            rw [natsL_getD, hblock2.out, addL_getD _ _ _ hlt, wordsN_getD, ← hu]
          have la := getD_lt hwl (by decide) k
          have CY := word_is (ys.getD k 0) _ rfl
          have ls := wordN_lt (ys.getD k 0)
          generalize wordN (ys.getD k 0) = s at HN CY ls
          generalize ys.getD k 0 = y at cy CY
          generalize now.getD k 0 = a at cn la HN
          obtain ⟨u, hu⟩ : ∃ u : Nat, u = (s + a) % 4294967296 := ⟨_, rfl⟩
          replace HN : Hid ((natsL L).take k ++ [(u : Int)] = (natsL L).take (k + 1)) := HN.out u hu
          have CU : ∀ w, Calls Tryz.prog 196 #[.int .i64 ((a : Int) + (s : Int))] w fun e w' => e = .returned (.int .i64 (u : Int)) ∧ w' = w := word_is _ _ (by unfold wordN; omega)
          have q1 : IntKind.i64.wrap ((a : Int) + (s : Int)) = (a : Int) + (s : Int) := by rw [IntKind.wrap_i64]; omega
          clear hu hblock2
          have HK : ∀ w', Below w5.heap.size wr w' → w'.cell? ⟨G, k, none⟩ = some (.int .i64 (a : Int)) ∧ w'.cell? ⟨b, o + k, none⟩ = some (.int .i64 y) := fun w' hB => ⟨(hB.cell (p := ⟨G, k, none⟩) hG).trans cn, (hB.cell (p := ⟨b, o + k, none⟩) hb5').trans cy⟩
          go_wp2_with (fail)
          go_region_held3 (fun w' => w'.cell? ⟨G, k, none⟩ = some (.int .i64 (a : Int)) ∧ w'.cell? ⟨b, o + k, none⟩ = some (.int .i64 y)) (first | exact HK _ (Below.refl _ _) | exact HK _ (Below.refl _ _).drew | exact HK _ ((Below.refl _ _).drew.alloc hsz6 _) | exact HK _ ((Below.refl _ _).alloc hsz6 _) | exact HK _ ((Below.refl _ _).alloc hsz6 _).drew | exact HK _ hb1 | exact HK _ hb1.drew)
            (first | (go_at_call_of 196 y; refine (CY _).mono ?_; rintro e w7 ⟨rfl, rfl⟩) | (go_at_call_of 196 a; refine (CU _).mono ?_; rintro e w7 ⟨rfl, rfl⟩) | (refine step_pushI hi hz0 hz1 hz2 (.tmp 138) (.tmp 150) 177 Tryz.underlying177 _ hown (by omega) hsz6 (by rfl) (by rfl) (by rfl) (by rfl) ?_; intro g cap w8 ho1 hb1))
          rw [HN.out] at ho1
          go_wp2
          go_roundw
          case rel => exact ⟨k + 1, by omega, by go_num, ho1, hbel.trans hb1⟩
          case measure => simp [intOf]; omega
        · obtain rfl : k = 8 := by omega
          rw [List.take_of_length_le (by rw [natsL_length]; omega)] at hown
          obtain ⟨p', c', hv⟩ := owns_form hown
          subst hv
          go_wp2
          go_ret
          exact ⟨_, _, rfl, .of (owns_mono hown hsz5), below_on bel5 hbel⟩

end Go.Proofs.YthfnechcddmjkaaGreatDoor
