/-
  What the program's rest answers. Condition: a number below 2 to the 256th.
-/
import Derived.Test.YtghoibggmddkmaoFieldB
namespace Go.Proofs.Ytghoibggmddkmao
open Go.RowKit

theorem rows2 (w : World) (f h : Nat → Int) {A Z : Array Value} (hA : A = (uV f 4).toArray) (hZ : Z = (uV h 4).toArray) :
    RowU 38 4 ((w.alloc (.cells A 38)).alloc (.cells Z 38)) w.heap.size w.heap.size f ∧ RowU 38 4 ((w.alloc (.cells A 38)).alloc (.cells Z 38)) w.heap.size (w.heap.size + 1) h ∧ Below w.heap.size w ((w.alloc (.cells A 38)).alloc (.cells Z 38)) ∧ ((w.alloc (.cells A 38)).alloc (.cells Z 38)).heap.size = w.heap.size + 1 + 1 := by
  subst hA hZ
  have m0 := RowU.made w 38 4 w.heap.size f (by decide) (Nat.le_refl _)
  obtain ⟨wa, hwa⟩ : ∃ wa, wa = w.alloc (.cells (uV f 4).toArray 38) := ⟨_, rfl⟩
  rw [← hwa] at m0 ⊢
  have sa : wa.heap.size = w.heap.size + 1 := by rw [hwa]; simp
  have ba : Below w.heap.size w wa := by rw [hwa]; exact (Below.refl _ _).alloc (Nat.le_refl _) _
  have m1 := RowU.made wa 38 4 w.heap.size h (by decide) (by omega)
  have b1 : Below wa.heap.size wa (wa.alloc (.cells (uV h 4).toArray 38)) := (Below.refl _ _).alloc (Nat.le_refl _) _
  rw [sa] at m1
  exact ⟨m0.below b1, m1, below_on ba b1, by simp [sa]⟩

set_option maxRecDepth 100000 in
set_option maxHeartbeats 8000000 in
theorem rest_any (x : Int) (w : World) (hx0 : 0 ≤ x) (hx : x < bU ^ 4) :
    Calls Try.prog 39 #[uP x] w fun e w' => e = .returned (uP (x % fldP)) ∧ Below w.heap.size w w' := by
  have hz := (zero_of_info infoU4).1
  unfold uP
  obtain ⟨V, hV⟩ : ∃ V, V = numU (x % fldP) := ⟨_, rfl⟩
  rw [← hV]
  replace hV : Hid (V = numU (x % fldP)) := hV
  obtain ⟨A, hA⟩ : ∃ A, A = (uV (numU x) 4).toArray := ⟨_, rfl⟩
  obtain ⟨Z, hZ⟩ : ∃ Z, Z = (uV (fun _ => 0) 4).toArray := ⟨_, rfl⟩
  obtain ⟨m0, m1, bel0, sz⟩ := rows2 w (numU x) (fun _ => 0) hA hZ
  rw [← hA]
  rw [← hZ] at hz
  clear hA
  replace hZ : Hid (Z = (uV (fun _ => 0) 4).toArray) := hZ
  go_enter Try.func39, Try.ntmps39
  go_wp2_with (fail)
  obtain ⟨G1, hG1⟩ : ∃ G1, G1 = w.heap.size + 1 := ⟨_, rfl⟩
  rw [← hG1] at m1 sz ⊢
  generalize (w.alloc (.cells A 38)).alloc (.cells Z 38) = wb at m0 m1 bel0 sz ⊢
  have hne : w.heap.size ≠ G1 := by omega
  have hloR : w.heap.size ≤ G1 := by omega
  clear hG1 sz
  go_loopw [] (fun wr => ∃ z : Int, (0 ≤ z ∧ z < bU ^ 4) ∧ Hid (z % fldP = x % fldP) ∧ RowU 38 4 wr w.heap.size w.heap.size (numU z) ∧ RowU 38 4 wr w.heap.size G1 (fun _ => 0) ∧ Below w.heap.size w wr)
    (fun wr => (numRow wr w.heap.size).toNat)
  case atStart => exact ⟨x, ⟨hx0, hx⟩, rfl, m0, m1, bel0⟩
  case round =>
    clear m0 m1 bel0 hx0 hx
    obtain ⟨z, lz, hzx, hn, hr, bel⟩ := hrel
    have HM : Hid (numRow wr w.heap.size = z) := by rw [Hid, hn.num, val_four lz.1 lz.2]
    replace hn := hn.drew
    replace hr := hr.drew
    replace bel := bel.drew
    have CP := fun X => fieldP_any X
    have CL := fun X => less_any z fldP X lz.1 lz.2 (by decide) (by decide)
    unfold uP at CP CL
    by_cases hle : fldP ≤ z
    · have hdc : decide (fldP ≤ z) = true := by simp [hle]
      rw [hdc] at CL
      have hmod : (z - fldP) % bU ^ 4 = z - fldP := Int.emod_eq_of_lt (by omega) (by have := fldP_pos; omega)
      rw [hmod] at CL
      have hzx2 : Hid ((z - fldP) % fldP = x % fldP) := by rw [Hid, Int.sub_emod_right, hzx.out]
      have hlt : Hid ((z - fldP).toNat < z.toNat) := by have := fldP_pos; show (z - fldP).toNat < z.toNat; omega
      have lz2 : 0 ≤ z - fldP ∧ z - fldP < bU ^ 4 := by have := fldP_pos; omega
      obtain ⟨u, hu⟩ : ∃ u, u = z - fldP := ⟨_, rfl⟩
      rw [← hu] at CL hzx2 hlt lz2
      obtain ⟨L, hL⟩ : ∃ L, L = numU u := ⟨_, rfl⟩
      rw [← hL] at CL
      replace hL : Hid (L = numU u) := hL
      clear hu hdc hmod
      obtain ⟨W, hW⟩ : ∃ W, W = wr.drew := ⟨_, rfl⟩
      rw [← hW] at hn hr bel
      replace hW : Hid (W = wr.drew) := hW
      go_wp2_with (fail)
      refine wp_region_noPanic ?_
      refine wp_region_T 99 (fun X => X.rangeAt w.heap.size 0 (uV (numU z) 4)) (fun _ => True) (by kernel_rfl) ?_
      rw [← hW.out]
      clear hW
      have kX : Below W.heap.size W W := Below.refl _ _
      have hLO : Hid (∃ LO, LO = W.heap.size) := ⟨_, rfl⟩
      obtain ⟨LO, hLO⟩ := hLO.out
      replace hLO : Hid (LO = W.heap.size) := hLO
      refine anyT_takeT (i := 0) rfl (by kernel_rfl) (by kernel_rfl) (by kernel_rfl) (by kernel_rfl) (fun _ _ _ h => h) (yieldsIf_load_mid (by rfl) _ _ rfl _ _ rfl (uV (numU z) 4) _ (fun _ hw => hw) Try.underlying38 rfl sizeU) (hn.below kX).range (fun _ => trivial) ?_
      simp only [Act.put, List.getElem_toArray, List.getElem_cons_zero, List.setIfInBounds_toArray, List.set_cons_zero, List.set_cons_succ]
      refine anyT_two (i := 1) (j := 6) (by kernel_rfl) rfl rfl (fun K hK => ?_) (fun K hK => ?_)
      · go_simp
        refine (CP _).mono ?_
        rintro e wY1 ⟨rfl, bY1⟩
        have kY1 := below_on kX bY1
        go_wp2_with (fail)
        refine hK.out _ _ (hn.below kY1).range (fun _ => trivial) ?_
        clear hK K
        refine anyT_two (i := 2) (j := 6) (by kernel_rfl) rfl rfl (fun K hK => ?_) (fun K hK => ?_)
        · go_simp
          refine (CL _).mono ?_
          rintro e wY2 ⟨rfl, bY2⟩
          have kY2 := below_on kY1 bY2
          go_wp2_with (fail)
          refine hK.out _ _ (hn.below kY2).range (fun _ => trivial) ?_
          clear hK K
          refine anyT_takeT (i := 3) (v := .tuple #[.agg (uV L 4).toArray, .bool true]) rfl (by kernel_rfl) (by kernel_rfl) (by kernel_rfl) (by kernel_rfl) (fun _ _ _ h => h) (Or.inl ⟨by rfl, fun X hSw => by ((try dsimp only at hSw); go_simp)⟩) (hn.below kY2).range (fun _ => trivial) ?_
          simp only [Act.put, List.getElem_toArray, List.getElem_cons_zero, List.getElem_cons_succ, List.setIfInBounds_toArray, List.set_cons_zero, List.set_cons_succ]
          refine anyT_takeT (i := 4) (v := .agg (uV L 4).toArray) rfl (by kernel_rfl) (by kernel_rfl) (by kernel_rfl) (by kernel_rfl) (fun _ _ _ h => h) (Or.inl ⟨by rfl, fun X hSw => by ((try dsimp only at hSw); go_simp)⟩) (hn.below kY2).range (fun _ => trivial) ?_
          simp only [Act.put, List.getElem_toArray, List.getElem_cons_zero, List.getElem_cons_succ, List.setIfInBounds_toArray, List.set_cons_zero, List.set_cons_succ]
          refine anyT_takeT (i := 5) (v := .bool true) rfl (by kernel_rfl) (by kernel_rfl) (by kernel_rfl) (by kernel_rfl) (fun _ _ _ h => h) (Or.inl ⟨by rfl, fun X hSw => by ((try dsimp only at hSw); go_simp)⟩) (hn.below kY2).range (fun _ => trivial) ?_
          simp only [Act.put, List.getElem_toArray, List.getElem_cons_zero, List.getElem_cons_succ, List.setIfInBounds_toArray, List.set_cons_zero, List.set_cons_succ]
          refine anyT_one (i := 6) (by kernel_rfl) rfl (fun K hK => ?_)
          go_simp
          have h3_3 := RowU.made wY2 38 4 LO (fun _ => 0) (by decide) (by rw [hLO.out]; exact Below.size kY2)
          rw [← hZ.out] at h3_3
          have bY3 : Below wY2.heap.size wY2 (wY2.alloc (.cells Z 38)) := (Below.refl _ _).alloc (Nat.le_refl _) _
          have kY3 := below_on kY2 bY3
          refine hK.out _ _ (hn.below kY3).range (fun _ => trivial) ?_
          clear hK K
          generalize wY2.alloc (.cells Z 38) = wY3 at h3_3 bY3 kY3 ⊢
          obtain ⟨g3, hg3⟩ : ∃ g3, g3 = wY2.heap.size := ⟨_, rfl⟩
          rw [← hg3] at h3_3 ⊢
          clear hg3
          have hp := RowU.put h3_3 (f' := L)
          have hth2 := RowU.there2 h3_3 (f' := L)
          have hlt3 := RowU.lt h3_3
          rw [hLO.out] at hlt3
          have hnw := hn.lt
          have hrw := hr.lt
          have hn2 := (hn.below kY3).kept hp.2 (by omega)
          have hr2 := (hr.below kY3).kept hp.2 (by omega)
          have bel1 := below_on bel kY3
          have bel2 := bel1.grown hp.2 (Nat.le_trans (Nat.le_of_lt (Nat.lt_of_le_of_lt hnw.1 hnw.2)) (Below.size kY3)) (fun k hk => by cases hk; omega)
          have h32 := hp.1
          have hg3n : w.heap.size ≠ g3 := by omega
          have hg3w : w.heap.size ≤ g3 := by omega
          refine anyT_one (i := 7) (by kernel_rfl) rfl (fun K hK => ?_)
          refine wp_store_mid 38 _ _ rfl g3 0 (uV L 4).toArray rfl rfl hth2 sizeU2 (all_oneCell_toArray (uV_one L 4)) ?_
          refine hK.out _ _ hn2.range (fun _ => trivial) ?_
          clear hK K
          refine anyT_takeT (i := 8) (v := .bool true) rfl (by kernel_rfl) (by kernel_rfl) (by kernel_rfl) (by kernel_rfl) (fun _ _ _ h => h) (Or.inl ⟨by rfl, fun X hSw => by ((try dsimp only at hSw); go_simp)⟩) hn2.range (fun _ => trivial) ?_
          simp only [Act.put, List.getElem_toArray, List.getElem_cons_zero, List.getElem_cons_succ, List.setIfInBounds_toArray, List.set_cons_zero, List.set_cons_succ]
          refine anyT_done (by kernel_rfl) ?_ _
          refine NoPanic.normal ?_
          generalize World.setCells wY3 g3 0 _ = w5 at hp hn2 hr2 bel2 h32 ⊢
          clear hp hth2 h3_3 hlt3 hnw hrw bel1 CP CL
          have hra := h32.range
          have hp := hn2.put (f' := L)
          have hth := hn2.there2 (f' := L)
          have hr3 := hr2.kept hp.2 hne.symm
          have bel3 := bel2.grown hp.2 (Nat.le_trans (Nat.le_of_lt (Nat.lt_of_le_of_lt hn2.lt.1 hn2.lt.2)) (Nat.le_refl _)) (fun k hk => by cases hk; exact Nat.le_refl _)
          have hn3 := hp.1
          clear hp h32 hn2 hr2 bel2
          obtain ⟨Cs, hCs⟩ : ∃ Cs, Cs = uV L 4 := ⟨_, rfl⟩
          have hsz := sizeU (f := L)
          have hsz2 := sizeU2 (f := L)
          have hone := uV_one L 4
          rw [← hCs] at hra hth hr3 bel3 hn3 hsz hsz2 hone
          clear hCs
          go_wp2_with (first | (refine wpList_load_mid rfl 38 _ rfl g3 0 rfl Cs _ hra Try.underlying38 rfl hsz ?_) | (refine wpList_store_mid rfl 38 _ _ rfl w.heap.size 0 Cs.toArray rfl rfl hth hsz2 (all_oneCell_toArray hone) ?_))
          refine ⟨⟨_, _, _, _, _, _, _, _, _, _, _, _, ?rel, rfl⟩, ?measure⟩
          case rel => exact ⟨u, lz2, hzx2, by rw [← hL.out]; exact hn3, hr3, bel3⟩
          case measure =>
            rw [hn3.num, HM.out, hL.out, val_four lz2.1 lz2.2]
            exact hlt.out
        · go_simp
          have h3_4 := RowU.made wY1 38 4 LO (fun _ => 0) (by decide) (by rw [hLO.out]; exact Below.size kY1)
          rw [← hZ.out] at h3_4
          have bY4 : Below wY1.heap.size wY1 (wY1.alloc (.cells Z 38)) := (Below.refl _ _).alloc (Nat.le_refl _) _
          have kY4 := below_on kY1 bY4
          refine hK.out _ _ (hn.below kY4).range (fun _ => trivial) ?_
          clear hK K
          generalize wY1.alloc (.cells Z 38) = wY4 at h3_4 bY4 kY4 ⊢
          obtain ⟨g3, hg3⟩ : ∃ g3, g3 = wY1.heap.size := ⟨_, rfl⟩
          rw [← hg3] at h3_4 ⊢
          clear hg3
          refine anyT_one (i := 2) (by kernel_rfl) rfl (fun K hK => ?_)
          go_simp
          refine (CL _).mono ?_
          rintro e wY5 ⟨rfl, bY5⟩
          have kY5 := below_on kY4 bY5
          have h3_5 := RowU.below h3_4 bY5
          go_wp2_with (fail)
          refine hK.out _ _ (hn.below kY5).range (fun _ => trivial) ?_
          clear hK K
          refine anyT_takeT (i := 3) (v := .tuple #[.agg (uV L 4).toArray, .bool true]) rfl (by kernel_rfl) (by kernel_rfl) (by kernel_rfl) (by kernel_rfl) (fun _ _ _ h => h) (Or.inl ⟨by rfl, fun X hSw => by ((try dsimp only at hSw); go_simp)⟩) (hn.below kY5).range (fun _ => trivial) ?_
          simp only [Act.put, List.getElem_toArray, List.getElem_cons_zero, List.getElem_cons_succ, List.setIfInBounds_toArray, List.set_cons_zero, List.set_cons_succ]
          refine anyT_takeT (i := 4) (v := .agg (uV L 4).toArray) rfl (by kernel_rfl) (by kernel_rfl) (by kernel_rfl) (by kernel_rfl) (fun _ _ _ h => h) (Or.inl ⟨by rfl, fun X hSw => by ((try dsimp only at hSw); go_simp)⟩) (hn.below kY5).range (fun _ => trivial) ?_
          simp only [Act.put, List.getElem_toArray, List.getElem_cons_zero, List.getElem_cons_succ, List.setIfInBounds_toArray, List.set_cons_zero, List.set_cons_succ]
          refine anyT_takeT (i := 5) (v := .bool true) rfl (by kernel_rfl) (by kernel_rfl) (by kernel_rfl) (by kernel_rfl) (fun _ _ _ h => h) (Or.inl ⟨by rfl, fun X hSw => by ((try dsimp only at hSw); go_simp)⟩) (hn.below kY5).range (fun _ => trivial) ?_
          simp only [Act.put, List.getElem_toArray, List.getElem_cons_zero, List.getElem_cons_succ, List.setIfInBounds_toArray, List.set_cons_zero, List.set_cons_succ]
          have hp := RowU.put h3_5 (f' := L)
          have hth2 := RowU.there2 h3_5 (f' := L)
          have hlt3 := RowU.lt h3_5
          rw [hLO.out] at hlt3
          have hnw := hn.lt
          have hrw := hr.lt
          have hn2 := (hn.below kY5).kept hp.2 (by omega)
          have hr2 := (hr.below kY5).kept hp.2 (by omega)
          have bel1 := below_on bel kY5
          have bel2 := bel1.grown hp.2 (Nat.le_trans (Nat.le_of_lt (Nat.lt_of_le_of_lt hnw.1 hnw.2)) (Below.size kY5)) (fun k hk => by cases hk; omega)
          have h32 := hp.1
          have hg3n : w.heap.size ≠ g3 := by omega
          have hg3w : w.heap.size ≤ g3 := by omega
          refine anyT_one (i := 7) (by kernel_rfl) rfl (fun K hK => ?_)
          refine wp_store_mid 38 _ _ rfl g3 0 (uV L 4).toArray rfl rfl hth2 sizeU2 (all_oneCell_toArray (uV_one L 4)) ?_
          refine hK.out _ _ hn2.range (fun _ => trivial) ?_
          clear hK K
          refine anyT_takeT (i := 8) (v := .bool true) rfl (by kernel_rfl) (by kernel_rfl) (by kernel_rfl) (by kernel_rfl) (fun _ _ _ h => h) (Or.inl ⟨by rfl, fun X hSw => by ((try dsimp only at hSw); go_simp)⟩) hn2.range (fun _ => trivial) ?_
          simp only [Act.put, List.getElem_toArray, List.getElem_cons_zero, List.getElem_cons_succ, List.setIfInBounds_toArray, List.set_cons_zero, List.set_cons_succ]
          refine anyT_done (by kernel_rfl) ?_ _
          refine NoPanic.normal ?_
          generalize World.setCells wY5 g3 0 _ = w5 at hp hn2 hr2 bel2 h32 ⊢
          clear hp hth2 h3_5 hlt3 hnw hrw bel1 CP CL
          have hra := h32.range
          have hp := hn2.put (f' := L)
          have hth := hn2.there2 (f' := L)
          have hr3 := hr2.kept hp.2 hne.symm
          have bel3 := bel2.grown hp.2 (Nat.le_trans (Nat.le_of_lt (Nat.lt_of_le_of_lt hn2.lt.1 hn2.lt.2)) (Nat.le_refl _)) (fun k hk => by cases hk; exact Nat.le_refl _)
          have hn3 := hp.1
          clear hp h32 hn2 hr2 bel2
          obtain ⟨Cs, hCs⟩ : ∃ Cs, Cs = uV L 4 := ⟨_, rfl⟩
          have hsz := sizeU (f := L)
          have hsz2 := sizeU2 (f := L)
          have hone := uV_one L 4
          rw [← hCs] at hra hth hr3 bel3 hn3 hsz hsz2 hone
          clear hCs
          go_wp2_with (first | (refine wpList_load_mid rfl 38 _ rfl g3 0 rfl Cs _ hra Try.underlying38 rfl hsz ?_) | (refine wpList_store_mid rfl 38 _ _ rfl w.heap.size 0 Cs.toArray rfl rfl hth hsz2 (all_oneCell_toArray hone) ?_))
          refine ⟨⟨_, _, _, _, _, _, _, _, _, _, _, _, ?rel, rfl⟩, ?measure⟩
          case rel => exact ⟨u, lz2, hzx2, by rw [← hL.out]; exact hn3, hr3, bel3⟩
          case measure =>
            rw [hn3.num, HM.out, hL.out, val_four lz2.1 lz2.2]
            exact hlt.out
      · go_simp
        have h3_6 := RowU.made W 38 4 LO (fun _ => 0) (by decide) (by rw [hLO.out]; exact Below.size kX)
        rw [← hZ.out] at h3_6
        have bY6 : Below W.heap.size W (W.alloc (.cells Z 38)) := (Below.refl _ _).alloc (Nat.le_refl _) _
        have kY6 := below_on kX bY6
        refine hK.out _ _ (hn.below kY6).range (fun _ => trivial) ?_
        clear hK K
        generalize W.alloc (.cells Z 38) = wY6 at h3_6 bY6 kY6 ⊢
        obtain ⟨g3, hg3⟩ : ∃ g3, g3 = W.heap.size := ⟨_, rfl⟩
        rw [← hg3] at h3_6 ⊢
        clear hg3
        refine anyT_one (i := 1) (by kernel_rfl) rfl (fun K hK => ?_)
        go_simp
        refine (CP _).mono ?_
        rintro e wY7 ⟨rfl, bY7⟩
        have kY7 := below_on kY6 bY7
        have h3_7 := RowU.below h3_6 bY7
        go_wp2_with (fail)
        refine hK.out _ _ (hn.below kY7).range (fun _ => trivial) ?_
        clear hK K
        refine anyT_one (i := 2) (by kernel_rfl) rfl (fun K hK => ?_)
        go_simp
        refine (CL _).mono ?_
        rintro e wY8 ⟨rfl, bY8⟩
        have kY8 := below_on kY7 bY8
        have h3_8 := RowU.below h3_7 bY8
        go_wp2_with (fail)
        refine hK.out _ _ (hn.below kY8).range (fun _ => trivial) ?_
        clear hK K
        refine anyT_takeT (i := 3) (v := .tuple #[.agg (uV L 4).toArray, .bool true]) rfl (by kernel_rfl) (by kernel_rfl) (by kernel_rfl) (by kernel_rfl) (fun _ _ _ h => h) (Or.inl ⟨by rfl, fun X hSw => by ((try dsimp only at hSw); go_simp)⟩) (hn.below kY8).range (fun _ => trivial) ?_
        simp only [Act.put, List.getElem_toArray, List.getElem_cons_zero, List.getElem_cons_succ, List.setIfInBounds_toArray, List.set_cons_zero, List.set_cons_succ]
        refine anyT_takeT (i := 4) (v := .agg (uV L 4).toArray) rfl (by kernel_rfl) (by kernel_rfl) (by kernel_rfl) (by kernel_rfl) (fun _ _ _ h => h) (Or.inl ⟨by rfl, fun X hSw => by ((try dsimp only at hSw); go_simp)⟩) (hn.below kY8).range (fun _ => trivial) ?_
        simp only [Act.put, List.getElem_toArray, List.getElem_cons_zero, List.getElem_cons_succ, List.setIfInBounds_toArray, List.set_cons_zero, List.set_cons_succ]
        refine anyT_takeT (i := 5) (v := .bool true) rfl (by kernel_rfl) (by kernel_rfl) (by kernel_rfl) (by kernel_rfl) (fun _ _ _ h => h) (Or.inl ⟨by rfl, fun X hSw => by ((try dsimp only at hSw); go_simp)⟩) (hn.below kY8).range (fun _ => trivial) ?_
        simp only [Act.put, List.getElem_toArray, List.getElem_cons_zero, List.getElem_cons_succ, List.setIfInBounds_toArray, List.set_cons_zero, List.set_cons_succ]
        have hp := RowU.put h3_8 (f' := L)
        have hth2 := RowU.there2 h3_8 (f' := L)
        have hlt3 := RowU.lt h3_8
        rw [hLO.out] at hlt3
        have hnw := hn.lt
        have hrw := hr.lt
        have hn2 := (hn.below kY8).kept hp.2 (by omega)
        have hr2 := (hr.below kY8).kept hp.2 (by omega)
        have bel1 := below_on bel kY8
        have bel2 := bel1.grown hp.2 (Nat.le_trans (Nat.le_of_lt (Nat.lt_of_le_of_lt hnw.1 hnw.2)) (Below.size kY8)) (fun k hk => by cases hk; omega)
        have h32 := hp.1
        have hg3n : w.heap.size ≠ g3 := by omega
        have hg3w : w.heap.size ≤ g3 := by omega
        refine anyT_one (i := 7) (by kernel_rfl) rfl (fun K hK => ?_)
        refine wp_store_mid 38 _ _ rfl g3 0 (uV L 4).toArray rfl rfl hth2 sizeU2 (all_oneCell_toArray (uV_one L 4)) ?_
        refine hK.out _ _ hn2.range (fun _ => trivial) ?_
        clear hK K
        refine anyT_takeT (i := 8) (v := .bool true) rfl (by kernel_rfl) (by kernel_rfl) (by kernel_rfl) (by kernel_rfl) (fun _ _ _ h => h) (Or.inl ⟨by rfl, fun X hSw => by ((try dsimp only at hSw); go_simp)⟩) hn2.range (fun _ => trivial) ?_
        simp only [Act.put, List.getElem_toArray, List.getElem_cons_zero, List.getElem_cons_succ, List.setIfInBounds_toArray, List.set_cons_zero, List.set_cons_succ]
        refine anyT_done (by kernel_rfl) ?_ _
        refine NoPanic.normal ?_
        generalize World.setCells wY8 g3 0 _ = w5 at hp hn2 hr2 bel2 h32 ⊢
        clear hp hth2 h3_8 hlt3 hnw hrw bel1 CP CL
        have hra := h32.range
        have hp := hn2.put (f' := L)
        have hth := hn2.there2 (f' := L)
        have hr3 := hr2.kept hp.2 hne.symm
        have bel3 := bel2.grown hp.2 (Nat.le_trans (Nat.le_of_lt (Nat.lt_of_le_of_lt hn2.lt.1 hn2.lt.2)) (Nat.le_refl _)) (fun k hk => by cases hk; exact Nat.le_refl _)
        have hn3 := hp.1
        clear hp h32 hn2 hr2 bel2
        obtain ⟨Cs, hCs⟩ : ∃ Cs, Cs = uV L 4 := ⟨_, rfl⟩
        have hsz := sizeU (f := L)
        have hsz2 := sizeU2 (f := L)
        have hone := uV_one L 4
        rw [← hCs] at hra hth hr3 bel3 hn3 hsz hsz2 hone
        clear hCs
        go_wp2_with (first | (refine wpList_load_mid rfl 38 _ rfl g3 0 rfl Cs _ hra Try.underlying38 rfl hsz ?_) | (refine wpList_store_mid rfl 38 _ _ rfl w.heap.size 0 Cs.toArray rfl rfl hth hsz2 (all_oneCell_toArray hone) ?_))
        refine ⟨⟨_, _, _, _, _, _, _, _, _, _, _, _, ?rel, rfl⟩, ?measure⟩
        case rel => exact ⟨u, lz2, hzx2, by rw [← hL.out]; exact hn3, hr3, bel3⟩
        case measure =>
          rw [hn3.num, HM.out, hL.out, val_four lz2.1 lz2.2]
          exact hlt.out
    · have hdc : decide (fldP ≤ z) = false := by simp [hle]
      rw [hdc] at CL
      have hVz : V = numU z := by rw [hV.out, ← hzx.out, Int.emod_eq_of_lt lz.1 (by omega)]
      rw [← hVz] at hn CL
      obtain ⟨L, hL⟩ : ∃ L, L = numU ((z - fldP) % bU ^ 4) := ⟨_, rfl⟩
      rw [← hL] at CL
      clear hL hdc hVz hV hzx HM hle
      obtain ⟨W, hW⟩ : ∃ W, W = wr.drew := ⟨_, rfl⟩
      rw [← hW] at hn hr bel
      replace hW : Hid (W = wr.drew) := hW
      go_wp2_with (fail)
      refine wp_region_noPanic ?_
      refine wp_region_T 99 (fun X => X.rangeAt w.heap.size 0 (uV V 4)) (fun _ => True) (by kernel_rfl) ?_
      rw [← hW.out]
      clear hW
      have kX : Below W.heap.size W W := Below.refl _ _
      have hLO : Hid (∃ LO, LO = W.heap.size) := ⟨_, rfl⟩
      obtain ⟨LO, hLO⟩ := hLO.out
      replace hLO : Hid (LO = W.heap.size) := hLO
      refine anyT_takeT (i := 0) rfl (by kernel_rfl) (by kernel_rfl) (by kernel_rfl) (by kernel_rfl) (fun _ _ _ h => h) (yieldsIf_load_mid (by rfl) _ _ rfl _ _ rfl (uV V 4) _ (fun _ hw => hw) Try.underlying38 rfl sizeU) (hn.below kX).range (fun _ => trivial) ?_
      simp only [Act.put, List.getElem_toArray, List.getElem_cons_zero, List.setIfInBounds_toArray, List.set_cons_zero, List.set_cons_succ]
      refine anyT_two (i := 1) (j := 6) (by kernel_rfl) rfl rfl (fun K hK => ?_) (fun K hK => ?_)
      · go_simp
        refine (CP _).mono ?_
        rintro e wY1 ⟨rfl, bY1⟩
        have kY1 := below_on kX bY1
        go_wp2_with (fail)
        refine hK.out _ _ (hn.below kY1).range (fun _ => trivial) ?_
        clear hK K
        refine anyT_two (i := 2) (j := 6) (by kernel_rfl) rfl rfl (fun K hK => ?_) (fun K hK => ?_)
        · go_simp
          refine (CL _).mono ?_
          rintro e wY2 ⟨rfl, bY2⟩
          have kY2 := below_on kY1 bY2
          go_wp2_with (fail)
          refine hK.out _ _ (hn.below kY2).range (fun _ => trivial) ?_
          clear hK K
          refine anyT_takeT (i := 3) (v := .tuple #[.agg (uV L 4).toArray, .bool false]) rfl (by kernel_rfl) (by kernel_rfl) (by kernel_rfl) (by kernel_rfl) (fun _ _ _ h => h) (Or.inl ⟨by rfl, fun X hSw => by ((try dsimp only at hSw); go_simp)⟩) (hn.below kY2).range (fun _ => trivial) ?_
          simp only [Act.put, List.getElem_toArray, List.getElem_cons_zero, List.getElem_cons_succ, List.setIfInBounds_toArray, List.set_cons_zero, List.set_cons_succ]
          refine anyT_takeT (i := 4) (v := .agg (uV L 4).toArray) rfl (by kernel_rfl) (by kernel_rfl) (by kernel_rfl) (by kernel_rfl) (fun _ _ _ h => h) (Or.inl ⟨by rfl, fun X hSw => by ((try dsimp only at hSw); go_simp)⟩) (hn.below kY2).range (fun _ => trivial) ?_
          simp only [Act.put, List.getElem_toArray, List.getElem_cons_zero, List.getElem_cons_succ, List.setIfInBounds_toArray, List.set_cons_zero, List.set_cons_succ]
          refine anyT_takeT (i := 5) (v := .bool false) rfl (by kernel_rfl) (by kernel_rfl) (by kernel_rfl) (by kernel_rfl) (fun _ _ _ h => h) (Or.inl ⟨by rfl, fun X hSw => by ((try dsimp only at hSw); go_simp)⟩) (hn.below kY2).range (fun _ => trivial) ?_
          simp only [Act.put, List.getElem_toArray, List.getElem_cons_zero, List.getElem_cons_succ, List.setIfInBounds_toArray, List.set_cons_zero, List.set_cons_succ]
          refine anyT_one (i := 6) (by kernel_rfl) rfl (fun K hK => ?_)
          go_simp
          have h3_3 := RowU.made wY2 38 4 LO (fun _ => 0) (by decide) (by rw [hLO.out]; exact Below.size kY2)
          rw [← hZ.out] at h3_3
          have bY3 : Below wY2.heap.size wY2 (wY2.alloc (.cells Z 38)) := (Below.refl _ _).alloc (Nat.le_refl _) _
          have kY3 := below_on kY2 bY3
          refine hK.out _ _ (hn.below kY3).range (fun _ => trivial) ?_
          clear hK K
          generalize wY2.alloc (.cells Z 38) = wY3 at h3_3 bY3 kY3 ⊢
          obtain ⟨g3, hg3⟩ : ∃ g3, g3 = wY2.heap.size := ⟨_, rfl⟩
          rw [← hg3] at h3_3 ⊢
          clear hg3
          have hp := RowU.put h3_3 (f' := L)
          have hth2 := RowU.there2 h3_3 (f' := L)
          have hlt3 := RowU.lt h3_3
          rw [hLO.out] at hlt3
          have hnw := hn.lt
          have hrw := hr.lt
          have hn2 := (hn.below kY3).kept hp.2 (by omega)
          have hr2 := (hr.below kY3).kept hp.2 (by omega)
          have bel1 := below_on bel kY3
          have bel2 := bel1.grown hp.2 (Nat.le_trans (Nat.le_of_lt (Nat.lt_of_le_of_lt hnw.1 hnw.2)) (Below.size kY3)) (fun k hk => by cases hk; omega)
          have h32 := hp.1
          have hg3n : w.heap.size ≠ g3 := by omega
          have hg3w : w.heap.size ≤ g3 := by omega
          refine anyT_one (i := 7) (by kernel_rfl) rfl (fun K hK => ?_)
          refine wp_store_mid 38 _ _ rfl g3 0 (uV L 4).toArray rfl rfl hth2 sizeU2 (all_oneCell_toArray (uV_one L 4)) ?_
          refine hK.out _ _ hn2.range (fun _ => trivial) ?_
          clear hK K
          refine anyT_takeT (i := 8) (v := .bool false) rfl (by kernel_rfl) (by kernel_rfl) (by kernel_rfl) (by kernel_rfl) (fun _ _ _ h => h) (Or.inl ⟨by rfl, fun X hSw => by ((try dsimp only at hSw); go_simp)⟩) hn2.range (fun _ => trivial) ?_
          simp only [Act.put, List.getElem_toArray, List.getElem_cons_zero, List.getElem_cons_succ, List.setIfInBounds_toArray, List.set_cons_zero, List.set_cons_succ]
          refine anyT_done (by kernel_rfl) ?_ _
          refine NoPanic.normal ?_
          generalize World.setCells wY3 g3 0 _ = w5 at hp hn2 hr2 bel2 h32 ⊢
          clear hp hth2 h3_3 hlt3 hnw hrw bel1 CP CL
          have hra := hn2.range
          have hp := hr2.put (f' := V)
          have hth := hr2.there2 (f' := V)
          have hbel := bel2.grown hp.2 (Nat.le_trans (Nat.le_of_lt (Nat.lt_of_le_of_lt hn2.lt.1 hn2.lt.2)) (Nat.le_refl _)) (fun k hk => by cases hk; exact hloR)
          have hld := run_loadVar_mid (P := Try.prog) _ G1 0 38 _ _ hp.1.range Try.underlying38 rfl sizeU
          clear hp h32 hn2 hr2 bel2
          have hsz := sizeU (f := V)
          have hsz2 := sizeU2 (f := V)
          have hone := uV_one V 4
          go_wp2_with (first | (refine wpList_load_mid rfl 38 _ rfl w.heap.size 0 rfl (uV V 4) _ hra Try.underlying38 rfl hsz ?_) | (refine wpList_store_mid rfl 38 _ _ rfl G1 0 (uV V 4).toArray rfl rfl hth hsz2 (all_oneCell_toArray hone) ?_))
          (try simp only [Exit.inBlock, Exit.then])
          refine bodyPost_ret (v := .agg (uV V 4).toArray) ?_ rfl ⟨rfl, hbel⟩
          simp [results, asAddr, Act.put, hld]
        · go_simp
          have h3_4 := RowU.made wY1 38 4 LO (fun _ => 0) (by decide) (by rw [hLO.out]; exact Below.size kY1)
          rw [← hZ.out] at h3_4
          have bY4 : Below wY1.heap.size wY1 (wY1.alloc (.cells Z 38)) := (Below.refl _ _).alloc (Nat.le_refl _) _
          have kY4 := below_on kY1 bY4
          refine hK.out _ _ (hn.below kY4).range (fun _ => trivial) ?_
          clear hK K
          generalize wY1.alloc (.cells Z 38) = wY4 at h3_4 bY4 kY4 ⊢
          obtain ⟨g3, hg3⟩ : ∃ g3, g3 = wY1.heap.size := ⟨_, rfl⟩
          rw [← hg3] at h3_4 ⊢
          clear hg3
          refine anyT_one (i := 2) (by kernel_rfl) rfl (fun K hK => ?_)
          go_simp
          refine (CL _).mono ?_
          rintro e wY5 ⟨rfl, bY5⟩
          have kY5 := below_on kY4 bY5
          have h3_5 := RowU.below h3_4 bY5
          go_wp2_with (fail)
          refine hK.out _ _ (hn.below kY5).range (fun _ => trivial) ?_
          clear hK K
          refine anyT_takeT (i := 3) (v := .tuple #[.agg (uV L 4).toArray, .bool false]) rfl (by kernel_rfl) (by kernel_rfl) (by kernel_rfl) (by kernel_rfl) (fun _ _ _ h => h) (Or.inl ⟨by rfl, fun X hSw => by ((try dsimp only at hSw); go_simp)⟩) (hn.below kY5).range (fun _ => trivial) ?_
          simp only [Act.put, List.getElem_toArray, List.getElem_cons_zero, List.getElem_cons_succ, List.setIfInBounds_toArray, List.set_cons_zero, List.set_cons_succ]
          refine anyT_takeT (i := 4) (v := .agg (uV L 4).toArray) rfl (by kernel_rfl) (by kernel_rfl) (by kernel_rfl) (by kernel_rfl) (fun _ _ _ h => h) (Or.inl ⟨by rfl, fun X hSw => by ((try dsimp only at hSw); go_simp)⟩) (hn.below kY5).range (fun _ => trivial) ?_
          simp only [Act.put, List.getElem_toArray, List.getElem_cons_zero, List.getElem_cons_succ, List.setIfInBounds_toArray, List.set_cons_zero, List.set_cons_succ]
          refine anyT_takeT (i := 5) (v := .bool false) rfl (by kernel_rfl) (by kernel_rfl) (by kernel_rfl) (by kernel_rfl) (fun _ _ _ h => h) (Or.inl ⟨by rfl, fun X hSw => by ((try dsimp only at hSw); go_simp)⟩) (hn.below kY5).range (fun _ => trivial) ?_
          simp only [Act.put, List.getElem_toArray, List.getElem_cons_zero, List.getElem_cons_succ, List.setIfInBounds_toArray, List.set_cons_zero, List.set_cons_succ]
          have hp := RowU.put h3_5 (f' := L)
          have hth2 := RowU.there2 h3_5 (f' := L)
          have hlt3 := RowU.lt h3_5
          rw [hLO.out] at hlt3
          have hnw := hn.lt
          have hrw := hr.lt
          have hn2 := (hn.below kY5).kept hp.2 (by omega)
          have hr2 := (hr.below kY5).kept hp.2 (by omega)
          have bel1 := below_on bel kY5
          have bel2 := bel1.grown hp.2 (Nat.le_trans (Nat.le_of_lt (Nat.lt_of_le_of_lt hnw.1 hnw.2)) (Below.size kY5)) (fun k hk => by cases hk; omega)
          have h32 := hp.1
          have hg3n : w.heap.size ≠ g3 := by omega
          have hg3w : w.heap.size ≤ g3 := by omega
          refine anyT_one (i := 7) (by kernel_rfl) rfl (fun K hK => ?_)
          refine wp_store_mid 38 _ _ rfl g3 0 (uV L 4).toArray rfl rfl hth2 sizeU2 (all_oneCell_toArray (uV_one L 4)) ?_
          refine hK.out _ _ hn2.range (fun _ => trivial) ?_
          clear hK K
          refine anyT_takeT (i := 8) (v := .bool false) rfl (by kernel_rfl) (by kernel_rfl) (by kernel_rfl) (by kernel_rfl) (fun _ _ _ h => h) (Or.inl ⟨by rfl, fun X hSw => by ((try dsimp only at hSw); go_simp)⟩) hn2.range (fun _ => trivial) ?_
          simp only [Act.put, List.getElem_toArray, List.getElem_cons_zero, List.getElem_cons_succ, List.setIfInBounds_toArray, List.set_cons_zero, List.set_cons_succ]
          refine anyT_done (by kernel_rfl) ?_ _
          refine NoPanic.normal ?_
          generalize World.setCells wY5 g3 0 _ = w5 at hp hn2 hr2 bel2 h32 ⊢
          clear hp hth2 h3_5 hlt3 hnw hrw bel1 CP CL
          have hra := hn2.range
          have hp := hr2.put (f' := V)
          have hth := hr2.there2 (f' := V)
          have hbel := bel2.grown hp.2 (Nat.le_trans (Nat.le_of_lt (Nat.lt_of_le_of_lt hn2.lt.1 hn2.lt.2)) (Nat.le_refl _)) (fun k hk => by cases hk; exact hloR)
          have hld := run_loadVar_mid (P := Try.prog) _ G1 0 38 _ _ hp.1.range Try.underlying38 rfl sizeU
          clear hp h32 hn2 hr2 bel2
          have hsz := sizeU (f := V)
          have hsz2 := sizeU2 (f := V)
          have hone := uV_one V 4
          go_wp2_with (first | (refine wpList_load_mid rfl 38 _ rfl w.heap.size 0 rfl (uV V 4) _ hra Try.underlying38 rfl hsz ?_) | (refine wpList_store_mid rfl 38 _ _ rfl G1 0 (uV V 4).toArray rfl rfl hth hsz2 (all_oneCell_toArray hone) ?_))
          (try simp only [Exit.inBlock, Exit.then])
          refine bodyPost_ret (v := .agg (uV V 4).toArray) ?_ rfl ⟨rfl, hbel⟩
          simp [results, asAddr, Act.put, hld]
      · go_simp
        have h3_6 := RowU.made W 38 4 LO (fun _ => 0) (by decide) (by rw [hLO.out]; exact Below.size kX)
        rw [← hZ.out] at h3_6
        have bY6 : Below W.heap.size W (W.alloc (.cells Z 38)) := (Below.refl _ _).alloc (Nat.le_refl _) _
        have kY6 := below_on kX bY6
        refine hK.out _ _ (hn.below kY6).range (fun _ => trivial) ?_
        clear hK K
        generalize W.alloc (.cells Z 38) = wY6 at h3_6 bY6 kY6 ⊢
        obtain ⟨g3, hg3⟩ : ∃ g3, g3 = W.heap.size := ⟨_, rfl⟩
        rw [← hg3] at h3_6 ⊢
        clear hg3
        refine anyT_one (i := 1) (by kernel_rfl) rfl (fun K hK => ?_)
        go_simp
        refine (CP _).mono ?_
        rintro e wY7 ⟨rfl, bY7⟩
        have kY7 := below_on kY6 bY7
        have h3_7 := RowU.below h3_6 bY7
        go_wp2_with (fail)
        refine hK.out _ _ (hn.below kY7).range (fun _ => trivial) ?_
        clear hK K
        refine anyT_one (i := 2) (by kernel_rfl) rfl (fun K hK => ?_)
        go_simp
        refine (CL _).mono ?_
        rintro e wY8 ⟨rfl, bY8⟩
        have kY8 := below_on kY7 bY8
        have h3_8 := RowU.below h3_7 bY8
        go_wp2_with (fail)
        refine hK.out _ _ (hn.below kY8).range (fun _ => trivial) ?_
        clear hK K
        refine anyT_takeT (i := 3) (v := .tuple #[.agg (uV L 4).toArray, .bool false]) rfl (by kernel_rfl) (by kernel_rfl) (by kernel_rfl) (by kernel_rfl) (fun _ _ _ h => h) (Or.inl ⟨by rfl, fun X hSw => by ((try dsimp only at hSw); go_simp)⟩) (hn.below kY8).range (fun _ => trivial) ?_
        simp only [Act.put, List.getElem_toArray, List.getElem_cons_zero, List.getElem_cons_succ, List.setIfInBounds_toArray, List.set_cons_zero, List.set_cons_succ]
        refine anyT_takeT (i := 4) (v := .agg (uV L 4).toArray) rfl (by kernel_rfl) (by kernel_rfl) (by kernel_rfl) (by kernel_rfl) (fun _ _ _ h => h) (Or.inl ⟨by rfl, fun X hSw => by ((try dsimp only at hSw); go_simp)⟩) (hn.below kY8).range (fun _ => trivial) ?_
        simp only [Act.put, List.getElem_toArray, List.getElem_cons_zero, List.getElem_cons_succ, List.setIfInBounds_toArray, List.set_cons_zero, List.set_cons_succ]
        refine anyT_takeT (i := 5) (v := .bool false) rfl (by kernel_rfl) (by kernel_rfl) (by kernel_rfl) (by kernel_rfl) (fun _ _ _ h => h) (Or.inl ⟨by rfl, fun X hSw => by ((try dsimp only at hSw); go_simp)⟩) (hn.below kY8).range (fun _ => trivial) ?_
        simp only [Act.put, List.getElem_toArray, List.getElem_cons_zero, List.getElem_cons_succ, List.setIfInBounds_toArray, List.set_cons_zero, List.set_cons_succ]
        have hp := RowU.put h3_8 (f' := L)
        have hth2 := RowU.there2 h3_8 (f' := L)
        have hlt3 := RowU.lt h3_8
        rw [hLO.out] at hlt3
        have hnw := hn.lt
        have hrw := hr.lt
        have hn2 := (hn.below kY8).kept hp.2 (by omega)
        have hr2 := (hr.below kY8).kept hp.2 (by omega)
        have bel1 := below_on bel kY8
        have bel2 := bel1.grown hp.2 (Nat.le_trans (Nat.le_of_lt (Nat.lt_of_le_of_lt hnw.1 hnw.2)) (Below.size kY8)) (fun k hk => by cases hk; omega)
        have h32 := hp.1
        have hg3n : w.heap.size ≠ g3 := by omega
        have hg3w : w.heap.size ≤ g3 := by omega
        refine anyT_one (i := 7) (by kernel_rfl) rfl (fun K hK => ?_)
        refine wp_store_mid 38 _ _ rfl g3 0 (uV L 4).toArray rfl rfl hth2 sizeU2 (all_oneCell_toArray (uV_one L 4)) ?_
        refine hK.out _ _ hn2.range (fun _ => trivial) ?_
        clear hK K
        refine anyT_takeT (i := 8) (v := .bool false) rfl (by kernel_rfl) (by kernel_rfl) (by kernel_rfl) (by kernel_rfl) (fun _ _ _ h => h) (Or.inl ⟨by rfl, fun X hSw => by ((try dsimp only at hSw); go_simp)⟩) hn2.range (fun _ => trivial) ?_
        simp only [Act.put, List.getElem_toArray, List.getElem_cons_zero, List.getElem_cons_succ, List.setIfInBounds_toArray, List.set_cons_zero, List.set_cons_succ]
        refine anyT_done (by kernel_rfl) ?_ _
        refine NoPanic.normal ?_
        generalize World.setCells wY8 g3 0 _ = w5 at hp hn2 hr2 bel2 h32 ⊢
        clear hp hth2 h3_8 hlt3 hnw hrw bel1 CP CL
        have hra := hn2.range
        have hp := hr2.put (f' := V)
        have hth := hr2.there2 (f' := V)
        have hbel := bel2.grown hp.2 (Nat.le_trans (Nat.le_of_lt (Nat.lt_of_le_of_lt hn2.lt.1 hn2.lt.2)) (Nat.le_refl _)) (fun k hk => by cases hk; exact hloR)
        have hld := run_loadVar_mid (P := Try.prog) _ G1 0 38 _ _ hp.1.range Try.underlying38 rfl sizeU
        clear hp h32 hn2 hr2 bel2
        have hsz := sizeU (f := V)
        have hsz2 := sizeU2 (f := V)
        have hone := uV_one V 4
        go_wp2_with (first | (refine wpList_load_mid rfl 38 _ rfl w.heap.size 0 rfl (uV V 4) _ hra Try.underlying38 rfl hsz ?_) | (refine wpList_store_mid rfl 38 _ _ rfl G1 0 (uV V 4).toArray rfl rfl hth hsz2 (all_oneCell_toArray hone) ?_))
        (try simp only [Exit.inBlock, Exit.then])
        refine bodyPost_ret (v := .agg (uV V 4).toArray) ?_ rfl ⟨rfl, hbel⟩
        simp [results, asAddr, Act.put, hld]

end Go.Proofs.Ytghoibggmddkmao
