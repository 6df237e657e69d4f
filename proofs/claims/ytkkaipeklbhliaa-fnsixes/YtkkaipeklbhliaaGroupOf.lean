/-
  What impl.groupOf answers of at most three bytes: their signs, filled up with 0. Conditions: bytes that lie there.
-/
import Derived.Test.YtkkaipeklbhliaaGroupMath
import Derived.Test.YtkkaipeklbhliaaCopied
namespace Go.Proofs.Ytkkaipeklbhliaa
open Go.RowKit
set_option maxRecDepth 100000

set_option maxHeartbeats 4000000 in
theorem groupOf_any (p : Option Addr) (n c : Nat) (xs : List Int) (w : World) (hn : n ≤ 3) (hx : xs.length = n) (h : BytesIn w p n xs) (hr : ∀ x ∈ xs, 0 ≤ x ∧ x < 256) :
    Calls Try.prog 25 #[.slice p n c] w fun e w' => e = .returned (.agg (u8G (gP xs (sixN n))).toArray) ∧ Below w.heap.size w w' := by
  obtain ⟨i0, hi, hz0, hz1, hz2⟩ := info_parts infoByte
  have hs5 : (Try.prog.info? 5).map (·.size) = some 1 := by rw [hi]; simp [hz1]
  obtain ⟨Z, hZ⟩ : ∃ Z, Z = [Value.int .u8 0, .int .u8 0, .int .u8 0] := ⟨_, rfl⟩
  obtain ⟨V, hV⟩ : ∃ V, V = xs.map (Value.int .u8) := ⟨_, rfl⟩
  have hVl : V.length = n := by rw [hV]; simp [hx]
  have hZl : Z.length = 3 := by rw [hZ]; rfl
  have hVo : ∀ v ∈ V, v.oneCell' = true := by rw [hV]; exact u8G_one xs
  have hfin : Hid (splice Z 0 V = (pad3 xs).map (Value.int .u8)) := by rw [hZ, hV]; exact pad3_splice (by omega)
  have hpos : ∀ X, Below w.heap.size w X → 0 < V.length → ∃ ad, p = some ad ∧ ∀ j v, V[j]? = some v → X.cell? (ad.add j) = some v := fun X hX h0 => by rw [hV] at h0 ⊢; exact in_cells (in_below h hX) hx h0
  obtain ⟨wa, hwa⟩ : ∃ wa, wa = w.alloc (.cells #[.int .u8 0, .int .u8 0, .int .u8 0, .int .u8 0] 40) := ⟨_, rfl⟩
  have ba : Below w.heap.size w wa := by rw [hwa]; exact (Below.refl _ _).alloc (Nat.le_refl _) _
  have sa : wa.heap.size = w.heap.size + 1 := by rw [hwa]; simp
  have ga : GrpIs wa w.heap.size w.heap.size [0, 0, 0, 0] := by rw [hwa]; exact GrpIs.made w 0 0 0 0
  obtain ⟨wb, hwb⟩ : ∃ wb, wb = wa.alloc (.cells #[.int .u8 0, .int .u8 0, .int .u8 0] 54) := ⟨_, rfl⟩
  have bb1 : Below wa.heap.size wa wb := by rw [hwb]; exact (Below.refl _ _).alloc (Nat.le_refl _) _
  have bb := below_on ba bb1
  have sb : wb.heap.size = w.heap.size + 2 := by rw [hwb]; simp [sa]
  have hrow : wb.heap[wa.heap.size]? = some (.cells Z.toArray 54 (0, 0)) := by rw [hwb, hZ]; exact heap_made _ _
  have gb := ga.below bb1
  rw [sa] at hrow
  rw [hwb, hwa] at hrow bb gb
  clear hwb hwa bb1 ba ga
  have CS := fun X => signsFor_any n X (by omega)
  have hs4 : sixN n ≤ 4 := by unfold sixN; omega
  obtain ⟨m, hm⟩ : ∃ m, m = sixN n := ⟨_, rfl⟩
  simp only [← hm] at CS hs4 ⊢
  clear hm
  go_enter Try.func25, Try.ntmps25
  go_wp2_with (refine wpList_copy_splice (by rfl) (.tmp 8) (.tmp 9) 22 22 (by rfl) 5 Try.underlying22 hs5 (some ⟨w.heap.size + 1, 0, none⟩) p 3 3 n c (by rfl) (by rfl) (w.heap.size + 1) 0 Z 54 hrow V (by rw [hVl]; exact (Nat.min_eq_left hn).symm) (fun h0 => ⟨rfl, hpos _ bb h0⟩) (by omega) hVo (w.heap.size + 1) _ (Below.refl _ _) (Nat.le_refl _) ?_; intro w2 hg2 hb2)
  have k2 : Below w.heap.size w w2 := bb.trans (hb2.mono (Nat.le_succ _))
  have r2 : GrpIs w2 w.heap.size w.heap.size [0, 0, 0, 0] := gb.below' hb2 (Nat.lt_succ_self _)
  have hg3 := hg2.out
  rw [hfin.out] at hg3
  have y2 := cells_bytes (n := 3) hg3 rfl
  have z2 : w.heap.size + 2 ≤ w2.heap.size := by have := hb2.size; simp at this; omega
  clear hg2 hg3 hb2 bb gb hrow hfin hpos hVo hZl hVl hV hZ sa sb
  clear wa wb V Z
  have CG := greatNumber_any _ 3 3 (pad3 xs) w2 (by omega) rfl y2 (pad3_lt hr)
  have hBn := gN_pad hr
  have hBl := gN_lt (pad3_lt hr) 3 (Nat.le_refl _)
  rw [List.take_of_length_le (by simp [pad3])] at hBl
  obtain ⟨B, hB⟩ : ∃ B, B = gN (pad3 xs) := ⟨_, rfl⟩
  rw [← hB] at CG hBn hBl
  clear hB y2
  have D0 : ((B : Int) / 262144).tmod 64 = sixD xs 0 := by rw [Int.tmod_eq_emod_of_nonneg (by omega)]; exact six_at0 hr hBn
  have D1 : ((B : Int) / 4096).tmod 64 = sixD xs 1 := by rw [Int.tmod_eq_emod_of_nonneg (by omega)]; exact six_at1 hr hBn
  have D2 : ((B : Int) / 64).tmod 64 = sixD xs 2 := by rw [Int.tmod_eq_emod_of_nonneg (by omega)]; exact six_at2 hr hBn
  have D3 : ((B : Int)).tmod 64 = sixD xs 3 := by rw [Int.tmod_eq_emod_of_nonneg (by omega)]; exact six_at3 hr hBn
  clear hBn
  go_wp2_with (first | (go_at_call 37; refine CG.mono ?_; rintro e w' ⟨rfl, he⟩; obtain rfl := he.symm) | (go_at_call 23; refine (CS _).mono ?_; rintro e w' ⟨rfl, he⟩; obtain rfl := he.symm))
  have g0 := GrpIs.made w2 0 0 0 0
  rw [← gP_zero xs] at g0
  go_loopw [16] (fun i wr => ∃ k : Nat, k ≤ m ∧ i = .int .i64 k ∧ GrpIs wr w2.heap.size w2.heap.size (gP xs k) ∧ Below w2.heap.size w2 wr) (fun i _ => m - (intOf i).toNat)
  case atStart => exact ⟨0, Nat.zero_le _, rfl, g0, (Below.refl _ _).alloc (Nat.le_refl _) _⟩
  case round =>
    clear g0
    obtain ⟨k, hk, rfl, hG, hb⟩ := hrel
    have zb := hb.size
    by_cases hlt : k < m
    · have hk4 : k = 0 ∨ k = 1 ∨ k = 2 ∨ k = 3 := by omega
      rcases hk4 with rfl | rfl | rfl | rfl
      · have hk1 : (0 : Int) < (m : Int) := by omega
        obtain ⟨d0, d1⟩ := sixD_lt hr 0
        have e1 := sx_lit (sixD xs 0) d0 d1
        have hc := hG.cell 0 (by omega)
        have hf := hG.frozen 0
        have st := hG.set 0 (sx (sixD xs 0))
        rw [gP_set xs 0 (by omega)] at st
        have hb' := hb.grown st.2 (by omega) (fun q hq => by cases hq; exact Nat.le_refl _)
        have st1 := st.1
        have lx := sx_lt (sixD xs 0)
        generalize sixD xs 0 = d at d0 d1 e1 st1 hb' lx D0
        clear hG st CG D1 D2 D3
        go_wp2
        go_roundw
        case rel => exact ⟨0 + 1, by omega, rfl, st1, hb'⟩
        case measure => simp [intOf]; omega
      · have hk1 : (1 : Int) < (m : Int) := by omega
        obtain ⟨d0, d1⟩ := sixD_lt hr 1
        have e1 := sx_lit (sixD xs 1) d0 d1
        have hc := hG.cell 1 (by omega)
        have hf := hG.frozen 1
        have st := hG.set 1 (sx (sixD xs 1))
        rw [gP_set xs 1 (by omega)] at st
        have hb' := hb.grown st.2 (by omega) (fun q hq => by cases hq; exact Nat.le_refl _)
        have st1 := st.1
        have lx := sx_lt (sixD xs 1)
        generalize sixD xs 1 = d at d0 d1 e1 st1 hb' lx D1
        clear hG st CG D0 D2 D3
        go_wp2
        go_roundw
        case rel => exact ⟨1 + 1, by omega, rfl, st1, hb'⟩
        case measure => simp [intOf]; omega
      · have hk1 : (2 : Int) < (m : Int) := by omega
        obtain ⟨d0, d1⟩ := sixD_lt hr 2
        have e1 := sx_lit (sixD xs 2) d0 d1
        have hc := hG.cell 2 (by omega)
        have hf := hG.frozen 2
        have st := hG.set 2 (sx (sixD xs 2))
        rw [gP_set xs 2 (by omega)] at st
        have hb' := hb.grown st.2 (by omega) (fun q hq => by cases hq; exact Nat.le_refl _)
        have st1 := st.1
        have lx := sx_lt (sixD xs 2)
        generalize sixD xs 2 = d at d0 d1 e1 st1 hb' lx D2
        clear hG st CG D0 D1 D3
        go_wp2
        go_roundw
        case rel => exact ⟨2 + 1, by omega, rfl, st1, hb'⟩
        case measure => simp [intOf]; omega
      · have hk1 : (3 : Int) < (m : Int) := by omega
        obtain ⟨d0, d1⟩ := sixD_lt hr 3
        have e1 := sx_lit (sixD xs 3) d0 d1
        have hc := hG.cell 3 (by omega)
        have hf := hG.frozen 3
        have st := hG.set 3 (sx (sixD xs 3))
        rw [gP_set xs 3 (by omega)] at st
        have hb' := hb.grown st.2 (by omega) (fun q hq => by cases hq; exact Nat.le_refl _)
        have st1 := st.1
        have lx := sx_lt (sixD xs 3)
        generalize sixD xs 3 = d at d0 d1 e1 st1 hb' lx D3
        clear hG st CG D0 D1 D2
        go_wp2
        go_roundw
        case rel => exact ⟨3 + 1, by omega, rfl, st1, hb'⟩
        case measure => simp [intOf]; omega
    · obtain rfl : k = m := by omega
      have hra := hG.range
      have rr := (r2.below hb).put (gP_length xs k)
      have ht : wr.there w.heap.size 0 (u8G (gP xs k)).toArray.size := by rw [show (u8G (gP xs k)).toArray.size = 4 by simp [u8G_length, gP_length]]; exact (r2.below hb).there
      have hbz := (below_on k2 hb).grown rr.2 (by have := k2.size; omega) (fun q hq => by cases hq; exact Nat.le_refl _)
      have hld := run_loadVar_mid (P := Try.prog) _ w.heap.size 0 40 _ _ rr.1.range Try.underlying40 rfl (sizeG (gP_length xs k))
      have hone := u8G_one (gP xs k)
      have hsz := sizeG (gP_length xs k)
      have hsz2 : (Try.prog.info? 40).map (·.size) = some (u8G (gP xs k)).toArray.size := by simpa using hsz
      obtain ⟨Cs, hCs⟩ : ∃ Cs, Cs = u8G (gP xs k) := ⟨_, rfl⟩
      rw [← hCs] at hra ht hbz hld hone hsz hsz2
      replace hCs : Hid (Cs = u8G (gP xs k)) := hCs
      clear rr hG r2 CG D0 D1 D2 D3 CS
      go_wp2_with (first | (refine wpList_load_mid rfl 40 _ rfl w2.heap.size 0 rfl Cs _ hra Try.underlying40 rfl hsz ?_) | (refine wpList_store_mid rfl 40 _ _ rfl w.heap.size 0 Cs.toArray rfl rfl ht hsz2 (all_oneCell_toArray hone) ?_))
      (try simp only [Exit.inBlock, Exit.then])
      refine bodyPost_ret (v := .agg Cs.toArray) ?_ rfl ⟨by rw [hCs.out], hbz⟩
      simp [results, asAddr, Act.put, hld]

end Go.Proofs.Ytkkaipeklbhliaa
