/-
  A part of the proof.
-/
import Derived.Test.YtnpffnhiefgglaaGreatDoorParw34
import Derived.Laws.BitsAllLaws
namespace Go.Proofs.YtnpffnhiefgglaaGreatDoor
open Go.RowKit
set_option maxRecDepth 100000
theorem rows2 (w : World) (f h : Nat → Int) {A Z : Array Value} (hA : A = (uV f 4).toArray) (hZ : Z = (uV h 4).toArray) :
    RowU 112 4 ((w.alloc (.cells A 112)).alloc (.cells Z 112)) w.heap.size w.heap.size f ∧ RowU 112 4 ((w.alloc (.cells A 112)).alloc (.cells Z 112)) w.heap.size (w.heap.size + 1) h ∧ Below w.heap.size w ((w.alloc (.cells A 112)).alloc (.cells Z 112)) ∧ ((w.alloc (.cells A 112)).alloc (.cells Z 112)).heap.size = w.heap.size + 1 + 1 := by
  subst hA hZ
  have m0 := RowU.made w 112 4 w.heap.size f (by decide) (Nat.le_refl _)
  obtain ⟨wa, hwa⟩ : ∃ wa, wa = w.alloc (.cells (uV f 4).toArray 112) := ⟨_, rfl⟩
  rw [← hwa] at m0 ⊢
  have sa : wa.heap.size = w.heap.size + 1 := by rw [hwa]; simp
  have ba : Below w.heap.size w wa := by rw [hwa]; exact (Below.refl _ _).alloc (Nat.le_refl _) _
  have m1 := RowU.made wa 112 4 w.heap.size h (by decide) (by omega)
  have b1 : Below wa.heap.size wa (wa.alloc (.cells (uV h 4).toArray 112)) := (Below.refl _ _).alloc (Nat.le_refl _) _
  rw [sa] at m1
  exact ⟨m0.below b1, m1, below_on ba b1, by simp [sa]⟩
set_option maxHeartbeats 8000000 in
theorem rest_any (x : Int) (w : World) (hx0 : 0 ≤ x) (hx : x < bU ^ 4) :
    Calls Tryz.prog 127 #[uP x] w fun e w' => e = .returned (uP (x % fldP)) ∧ Below w.heap.size w w' := by
  have hz := (zero_of_info infoU4).1
  unfold uP
  obtain ⟨V, hV⟩ : ∃ V, V = numU (x % fldP) := ⟨_, rfl⟩
  rw [← hV]
  replace hV : Hid (V = numU (x % fldP)) := hV
  obtain ⟨A, hA⟩ : ∃ A, A = (uV (numU x) 4).toArray := ⟨_, rfl⟩
  obtain ⟨Z, hZ⟩ : ∃ Z, Z = (uV (fun _ => 0) 4).toArray := ⟨_, rfl⟩
  obtain ⟨m0, m1, bel0, sz⟩ := rows2 w (numU x) (fun _ => 0) hA hZ
  rw [← hA]
  rw [← hZ] at hz
  clear hA
  replace hZ : Hid (Z = (uV (fun _ => 0) 4).toArray) := hZ
  go_enter Tryz.func127, Tryz.ntmps127
  go_wp2_with (fail)
  obtain ⟨G1, hG1⟩ : ∃ G1, G1 = w.heap.size + 1 := ⟨_, rfl⟩
  rw [← hG1] at m1 sz ⊢
  generalize (w.alloc (.cells A 112)).alloc (.cells Z 112) = wb at m0 m1 bel0 sz ⊢
  have hne : w.heap.size ≠ G1 := by omega
  have hloR : w.heap.size ≤ G1 := by omega
  clear hG1 sz
  go_loopw [] (fun wr => ∃ z : Int, (0 ≤ z ∧ z < bU ^ 4) ∧ Hid (z % fldP = x % fldP) ∧ RowU 112 4 wr w.heap.size w.heap.size (numU z) ∧ RowU 112 4 wr w.heap.size G1 (fun _ => 0) ∧ Below w.heap.size w wr)
    (fun wr => (numRow wr w.heap.size).toNat)
  case atStart => exact ⟨x, ⟨hx0, hx⟩, rfl, m0, m1, bel0⟩
  case round =>
    clear m0 m1 bel0 hx0 hx
    obtain ⟨z, lz, hzx, hn, hr, bel⟩ := hrel
    have HM : Hid (numRow wr w.heap.size = z) := by rw [Hid, hn.num, val_four lz.1 lz.2]
    replace hn := hn.drew
    replace hr := hr.drew
    replace bel := bel.drew
    have CP := fun X => fieldP_any X
    have CL := fun X => less_any z fldP X lz.1 lz.2 (by decide) (by decide)
    unfold uP at CP CL
    by_cases hle : fldP ≤ z
    · have hdc : decide (fldP ≤ z) = true := by simp [hle]
      rw [hdc] at CL
      have hmod : (z - fldP) % bU ^ 4 = z - fldP := Int.emod_eq_of_lt (by omega) (by have := fldP_pos; omega)
      rw [hmod] at CL
      have hzx2 : Hid ((z - fldP) % fldP = x % fldP) := by rw [Hid, Int.sub_emod_right, hzx.out]
      have hlt : Hid ((z - fldP).toNat < z.toNat) := by have := fldP_pos; show (z - fldP).toNat < z.toNat; omega
      have lz2 : 0 ≤ z - fldP ∧ z - fldP < bU ^ 4 := by have := fldP_pos; omega
      obtain ⟨u, hu⟩ : ∃ u, u = z - fldP := ⟨_, rfl⟩
      rw [← hu] at CL hzx2 hlt lz2
      obtain ⟨L, hL⟩ : ∃ L, L = numU u := ⟨_, rfl⟩
      rw [← hL] at CL
      replace hL : Hid (L = numU u) := hL
      clear hu hdc hmod
      obtain ⟨W, hW⟩ : ∃ W, W = wr.drew := ⟨_, rfl⟩
      rw [← hW] at hn hr bel
      replace hW : Hid (W = wr.drew) := hW
      go_wp2_with (fail)
      refine wp_region_noPanic ?_
      refine wp_region_T 99 (fun X => X.rangeAt w.heap.size 0 (uV (numU z) 4)) (fun _ => True) (by kernel_rfl) ?_
      rw [← hW.out]
      clear hW
      have kX : Below W.heap.size W W := Below.refl _ _
      have hLO : Hid (∃ LO, LO = W.heap.size) := ⟨_, rfl⟩
      obtain ⟨LO, hLO⟩ := hLO.out
      replace hLO : Hid (LO = W.heap.size) := hLO
      refine anyT_takeT (i := 0) rfl (by kernel_rfl) (by kernel_rfl) (by kernel_rfl) (by kernel_rfl) (fun _ _ _ h => h) (yieldsIf_load_mid (by rfl) _ _ rfl _ _ rfl (uV (numU z) 4) _ (fun _ hw => hw) Tryz.underlying112 rfl sizeU) (hn.below kX).range (fun _ => trivial) ?_
      simp only [Act.put, List.getElem_toArray, List.getElem_cons_zero, List.setIfInBounds_toArray, List.set_cons_zero, List.set_cons_succ]
      refine anyT_two (i := 1) (j := 6) (by kernel_rfl) rfl rfl (fun K hK => ?_) (fun K hK => ?_)
      · go_simp
        refine (CP _).mono ?_
        rintro e wY1 ⟨rfl, bY1⟩
        have kY1 := below_on kX bY1
        go_wp2_with (fail)
        refine hK.out _ _ (hn.below kY1).range (fun _ => trivial) ?_
        clear hK K
        refine anyT_two (i := 2) (j := 6) (by kernel_rfl) rfl rfl (fun K hK => ?_) (fun K hK => ?_)
        · go_simp
          refine (CL _).mono ?_
          rintro e wY2 ⟨rfl, bY2⟩
          have kY2 := below_on kY1 bY2
          go_wp2_with (fail)
          refine hK.out _ _ (hn.below kY2).range (fun _ => trivial) ?_
          clear hK K
          refine anyT_takeT (i := 3) (v := .tuple #[.agg (uV L 4).toArray, .bool true]) rfl (by kernel_rfl) (by kernel_rfl) (by kernel_rfl) (by kernel_rfl) (fun _ _ _ h => h) (Or.inl ⟨by rfl, fun X hSw => by ((try dsimp only at hSw); go_simp)⟩) (hn.below kY2).range (fun _ => trivial) ?_
          simp only [Act.put, List.getElem_toArray, List.getElem_cons_zero, List.getElem_cons_succ, List.setIfInBounds_toArray, List.set_cons_zero, List.set_cons_succ]
          refine anyT_takeT (i := 4) (v := .agg (uV L 4).toArray) rfl (by kernel_rfl) (by kernel_rfl) (by kernel_rfl) (by kernel_rfl) (fun _ _ _ h => h) (Or.inl ⟨by rfl, fun X hSw => by ((try dsimp only at hSw); go_simp)⟩) (hn.below kY2).range (fun _ => trivial) ?_
          simp only [Act.put, List.getElem_toArray, List.getElem_cons_zero, List.getElem_cons_succ, List.setIfInBounds_toArray, List.set_cons_zero, List.set_cons_succ]
          refine anyT_takeT (i := 5) (v := .bool true) rfl (by kernel_rfl) (by kernel_rfl) (by kernel_rfl) (by kernel_rfl) (fun _ _ _ h => h) (Or.inl ⟨by rfl, fun X hSw => by ((try dsimp only at hSw); go_simp)⟩) (hn.below kY2).range (fun _ => trivial) ?_
          simp only [Act.put, List.getElem_toArray, List.getElem_cons_zero, List.getElem_cons_succ, List.setIfInBounds_toArray, List.set_cons_zero, List.set_cons_succ]
          refine anyT_one (i := 6) (by kernel_rfl) rfl (fun K hK => ?_)
          go_simp
          have h3_3 := RowU.made wY2 112 4 LO (fun _ => 0) (by decide) (by rw [hLO.out]; exact Below.size kY2)
          rw [← hZ.out] at h3_3
          have bY3 : Below wY2.heap.size wY2 (wY2.alloc (.cells Z 112)) := (Below.refl _ _).alloc (Nat.le_refl _) _
          have kY3 := below_on kY2 bY3
          refine hK.out _ _ (hn.below kY3).range (fun _ => trivial) ?_
          clear hK K
          generalize wY2.alloc (.cells Z 112) = wY3 at h3_3 bY3 kY3 ⊢
          obtain ⟨g3, hg3⟩ : ∃ g3, g3 = wY2.heap.size := ⟨_, rfl⟩
          rw [← hg3] at h3_3 ⊢
          clear hg3
          have hp := RowU.put h3_3 (f' := L)
          have hth2 := RowU.there2 h3_3 (f' := L)
          have hlt3 := RowU.lt h3_3
          rw [hLO.out] at hlt3
          have hnw := hn.lt
          have hrw := hr.lt
          have hn2 := (hn.below kY3).kept hp.2 (by omega)
          have hr2 := (hr.below kY3).kept hp.2 (by omega)
          have bel1 := below_on bel kY3
          have bel2 := bel1.grown hp.2 (Nat.le_trans (Nat.le_of_lt (Nat.lt_of_le_of_lt hnw.1 hnw.2)) (Below.size kY3)) (fun k hk => by cases hk; omega)
          have h32 := hp.1
          have hg3n : w.heap.size ≠ g3 := by omega
          have hg3w : w.heap.size ≤ g3 := by omega
          refine anyT_one (i := 7) (by kernel_rfl) rfl (fun K hK => ?_)
          refine wp_store_mid 112 _ _ rfl g3 0 (uV L 4).toArray rfl rfl hth2 sizeU2 (all_oneCell_toArray (uV_one L 4)) ?_
          refine hK.out _ _ hn2.range (fun _ => trivial) ?_
          clear hK K
          refine anyT_takeT (i := 8) (v := .bool true) rfl (by kernel_rfl) (by kernel_rfl) (by kernel_rfl) (by kernel_rfl) (fun _ _ _ h => h) (Or.inl ⟨by rfl, fun X hSw => by ((try dsimp only at hSw); go_simp)⟩) hn2.range (fun _ => trivial) ?_
          simp only [Act.put, List.getElem_toArray, List.getElem_cons_zero, List.getElem_cons_succ, List.setIfInBounds_toArray, List.set_cons_zero, List.set_cons_succ]
          refine anyT_done (by kernel_rfl) ?_ _
          refine NoPanic.normal ?_
          generalize World.setCells wY3 g3 0 _ = w5 at hp hn2 hr2 bel2 h32 ⊢
          clear hp hth2 h3_3 hlt3 hnw hrw bel1 CP CL
          have hra := h32.range
          have hp := hn2.put (f' := L)
          have hth := hn2.there2 (f' := L)
          have hr3 := hr2.kept hp.2 hne.symm
          have bel3 := bel2.grown hp.2 (Nat.le_trans (Nat.le_of_lt (Nat.lt_of_le_of_lt hn2.lt.1 hn2.lt.2)) (Nat.le_refl _)) (fun k hk => by cases hk; exact Nat.le_refl _)
          have hn3 := hp.1
          clear hp h32 hn2 hr2 bel2
          obtain ⟨Cs, hCs⟩ : ∃ Cs, Cs = uV L 4 := ⟨_, rfl⟩
          have hsz := sizeU (f := L)
          have hsz2 := sizeU2 (f := L)
          have hone := uV_one L 4
          rw [← hCs] at hra hth hr3 bel3 hn3 hsz hsz2 hone
          clear hCs
          go_wp2_with (first | (refine wpList_load_mid rfl 112 _ rfl g3 0 rfl Cs _ hra Tryz.underlying112 rfl hsz ?_) | (refine wpList_store_mid rfl 112 _ _ rfl w.heap.size 0 Cs.toArray rfl rfl hth hsz2 (all_oneCell_toArray hone) ?_))
          refine ⟨⟨_, _, _, _, _, _, _, _, _, _, _, _, ?rel, rfl⟩, ?measure⟩
          case rel => exact ⟨u, lz2, hzx2, by rw [← hL.out]; exact hn3, hr3, bel3⟩
          case measure =>
            rw [hn3.num, HM.out, hL.out, val_four lz2.1 lz2.2]
            exact hlt.out
        · go_simp
          have h3_4 := RowU.made wY1 112 4 LO (fun _ => 0) (by decide) (by rw [hLO.out]; exact Below.size kY1)
          rw [← hZ.out] at h3_4
          have bY4 : Below wY1.heap.size wY1 (wY1.alloc (.cells Z 112)) := (Below.refl _ _).alloc (Nat.le_refl _) _
          have kY4 := below_on kY1 bY4
          refine hK.out _ _ (hn.below kY4).range (fun _ => trivial) ?_
          clear hK K
          generalize wY1.alloc (.cells Z 112) = wY4 at h3_4 bY4 kY4 ⊢
          obtain ⟨g3, hg3⟩ : ∃ g3, g3 = wY1.heap.size := ⟨_, rfl⟩
          rw [← hg3] at h3_4 ⊢
          clear hg3
          refine anyT_one (i := 2) (by kernel_rfl) rfl (fun K hK => ?_)
          go_simp
          refine (CL _).mono ?_
          rintro e wY5 ⟨rfl, bY5⟩
          have kY5 := below_on kY4 bY5
          have h3_5 := RowU.below h3_4 bY5
          go_wp2_with (fail)
          refine hK.out _ _ (hn.below kY5).range (fun _ => trivial) ?_
          clear hK K
          refine anyT_takeT (i := 3) (v := .tuple #[.agg (uV L 4).toArray, .bool true]) rfl (by kernel_rfl) (by kernel_rfl) (by kernel_rfl) (by kernel_rfl) (fun _ _ _ h => h) (Or.inl ⟨by rfl, fun X hSw => by ((try dsimp only at hSw); go_simp)⟩) (hn.below kY5).range (fun _ => trivial) ?_
          simp only [Act.put, List.getElem_toArray, List.getElem_cons_zero, List.getElem_cons_succ, List.setIfInBounds_toArray, List.set_cons_zero, List.set_cons_succ]
          refine anyT_takeT (i := 4) (v := .agg (uV L 4).toArray) rfl (by kernel_rfl) (by kernel_rfl) (by kernel_rfl) (by kernel_rfl) (fun _ _ _ h => h) (Or.inl ⟨by rfl, fun X hSw => by ((try dsimp only at hSw); go_simp)⟩) (hn.below kY5).range (fun _ => trivial) ?_
          simp only [Act.put, List.getElem_toArray, List.getElem_cons_zero, List.getElem_cons_succ, List.setIfInBounds_toArray, List.set_cons_zero, List.set_cons_succ]
          refine anyT_takeT (i := 5) (v := .bool true) rfl (by kernel_rfl) (by kernel_rfl) (by kernel_rfl) (by kernel_rfl) (fun _ _ _ h => h) (Or.inl ⟨by rfl, fun X hSw => by ((try dsimp only at hSw); go_simp)⟩) (hn.below kY5).range (fun _ => trivial) ?_
          simp only [Act.put, List.getElem_toArray, List.getElem_cons_zero, List.getElem_cons_succ, List.setIfInBounds_toArray, List.set_cons_zero, List.set_cons_succ]
          have hp := RowU.put h3_5 (f' := L)
          have hth2 := RowU.there2 h3_5 (f' := L)
          have hlt3 := RowU.lt h3_5
          rw [hLO.out] at hlt3
          have hnw := hn.lt
          have hrw := hr.lt
          have hn2 := (hn.below kY5).kept hp.2 (by omega)
          have hr2 := (hr.below kY5).kept hp.2 (by omega)
          have bel1 := below_on bel kY5
          have bel2 := bel1.grown hp.2 (Nat.le_trans (Nat.le_of_lt (Nat.lt_of_le_of_lt hnw.1 hnw.2)) (Below.size kY5)) (fun k hk => by cases hk; omega)
          have h32 := hp.1
          have hg3n : w.heap.size ≠ g3 := by omega
          have hg3w : w.heap.size ≤ g3 := by omega
          refine anyT_one (i := 7) (by kernel_rfl) rfl (fun K hK => ?_)
          refine wp_store_mid 112 _ _ rfl g3 0 (uV L 4).toArray rfl rfl hth2 sizeU2 (all_oneCell_toArray (uV_one L 4)) ?_
          refine hK.out _ _ hn2.range (fun _ => trivial) ?_
          clear hK K
          refine anyT_takeT (i := 8) (v := .bool true) rfl (by kernel_rfl) (by kernel_rfl) (by kernel_rfl) (by kernel_rfl) (fun _ _ _ h => h) (Or.inl ⟨by rfl, fun X hSw => by ((try dsimp only at hSw); go_simp)⟩) hn2.range (fun _ => trivial) ?_
          simp only [Act.put, List.getElem_toArray, List.getElem_cons_zero, List.getElem_cons_succ, List.setIfInBounds_toArray, List.set_cons_zero, List.set_cons_succ]
          refine anyT_done (by kernel_rfl) ?_ _
          refine NoPanic.normal ?_
          generalize World.setCells wY5 g3 0 _ = w5 at hp hn2 hr2 bel2 h32 ⊢
          clear hp hth2 h3_5 hlt3 hnw hrw bel1 CP CL
          have hra := h32.range
          have hp := hn2.put (f' := L)
          have hth := hn2.there2 (f' := L)
          have hr3 := hr2.kept hp.2 hne.symm
          have bel3 := bel2.grown hp.2 (Nat.le_trans (Nat.le_of_lt (Nat.lt_of_le_of_lt hn2.lt.1 hn2.lt.2)) (Nat.le_refl _)) (fun k hk => by cases hk; exact Nat.le_refl _)
          have hn3 := hp.1
          clear hp h32 hn2 hr2 bel2
          obtain ⟨Cs, hCs⟩ : ∃ Cs, Cs = uV L 4 := ⟨_, rfl⟩
          have hsz := sizeU (f := L)
          have hsz2 := sizeU2 (f := L)
          have hone := uV_one L 4
          rw [← hCs] at hra hth hr3 bel3 hn3 hsz hsz2 hone
          clear hCs
          go_wp2_with (first | (refine wpList_load_mid rfl 112 _ rfl g3 0 rfl Cs _ hra Tryz.underlying112 rfl hsz ?_) | (refine wpList_store_mid rfl 112 _ _ rfl w.heap.size 0 Cs.toArray rfl rfl hth hsz2 (all_oneCell_toArray hone) ?_))
          refine ⟨⟨_, _, _, _, _, _, _, _, _, _, _, _, ?rel, rfl⟩, ?measure⟩
          case rel => exact ⟨u, lz2, hzx2, by rw [← hL.out]; exact hn3, hr3, bel3⟩
          case measure =>
            rw [hn3.num, HM.out, hL.out, val_four lz2.1 lz2.2]
            exact hlt.out
      · go_simp
        have h3_6 := RowU.made W 112 4 LO (fun _ => 0) (by decide) (by rw [hLO.out]; exact Below.size kX)
        rw [← hZ.out] at h3_6
        have bY6 : Below W.heap.size W (W.alloc (.cells Z 112)) := (Below.refl _ _).alloc (Nat.le_refl _) _
        have kY6 := below_on kX bY6
        refine hK.out _ _ (hn.below kY6).range (fun _ => trivial) ?_
        clear hK K
        generalize W.alloc (.cells Z 112) = wY6 at h3_6 bY6 kY6 ⊢
        obtain ⟨g3, hg3⟩ : ∃ g3, g3 = W.heap.size := ⟨_, rfl⟩
        rw [← hg3] at h3_6 ⊢
        clear hg3
        refine anyT_one (i := 1) (by kernel_rfl) rfl (fun K hK => ?_)
        go_simp
        refine (CP _).mono ?_
        rintro e wY7 ⟨rfl, bY7⟩
        have kY7 := below_on kY6 bY7
        have h3_7 := RowU.below h3_6 bY7
        go_wp2_with (fail)
        refine hK.out _ _ (hn.below kY7).range (fun _ => trivial) ?_
        clear hK K
        refine anyT_one (i := 2) (by kernel_rfl) rfl (fun K hK => ?_)
        go_simp
        refine (CL _).mono ?_
        rintro e wY8 ⟨rfl, bY8⟩
        have kY8 := below_on kY7 bY8
        have h3_8 := RowU.below h3_7 bY8
        go_wp2_with (fail)
        refine hK.out _ _ (hn.below kY8).range (fun _ => trivial) ?_
        clear hK K
        refine anyT_takeT (i := 3) (v := .tuple #[.agg (uV L 4).toArray, .bool true]) rfl (by kernel_rfl) (by kernel_rfl) (by kernel_rfl) (by kernel_rfl) (fun _ _ _ h => h) (Or.inl ⟨by rfl, fun X hSw => by ((try dsimp only at hSw); go_simp)⟩) (hn.below kY8).range (fun _ => trivial) ?_
        simp only [Act.put, List.getElem_toArray, List.getElem_cons_zero, List.getElem_cons_succ, List.setIfInBounds_toArray, List.set_cons_zero, List.set_cons_succ]
        refine anyT_takeT (i := 4) (v := .agg (uV L 4).toArray) rfl (by kernel_rfl) (by kernel_rfl) (by kernel_rfl) (by kernel_rfl) (fun _ _ _ h => h) (Or.inl ⟨by rfl, fun X hSw => by ((try dsimp only at hSw); go_simp)⟩) (hn.below kY8).range (fun _ => trivial) ?_
        simp only [Act.put, List.getElem_toArray, List.getElem_cons_zero, List.getElem_cons_succ, List.setIfInBounds_toArray, List.set_cons_zero, List.set_cons_succ]
        refine anyT_takeT (i := 5) (v := .bool true) rfl (by kernel_rfl) (by kernel_rfl) (by kernel_rfl) (by kernel_rfl) (fun _ _ _ h => h) (Or.inl ⟨by rfl, fun X hSw => by ((try dsimp only at hSw); go_simp)⟩) (hn.below kY8).range (fun _ => trivial) ?_
        simp only [Act.put, List.getElem_toArray, List.getElem_cons_zero, List.getElem_cons_succ, List.setIfInBounds_toArray, List.set_cons_zero, List.set_cons_succ]
        have hp := RowU.put h3_8 (f' := L)
        have hth2 := RowU.there2 h3_8 (f' := L)
        have hlt3 := RowU.lt h3_8
        rw [hLO.out] at hlt3
        have hnw := hn.lt
        have hrw := hr.lt
        have hn2 := (hn.below kY8).kept hp.2 (by omega)
        have hr2 := (hr.below kY8).kept hp.2 (by omega)
        have bel1 := below_on bel kY8
        have bel2 := bel1.grown hp.2 (Nat.le_trans (Nat.le_of_lt (Nat.lt_of_le_of_lt hnw.1 hnw.2)) (Below.size kY8)) (fun k hk => by cases hk; omega)
        have h32 := hp.1
        have hg3n : w.heap.size ≠ g3 := by omega
        have hg3w : w.heap.size ≤ g3 := by omega
        refine anyT_one (i := 7) (by kernel_rfl) rfl (fun K hK => ?_)
        refine wp_store_mid 112 _ _ rfl g3 0 (uV L 4).toArray rfl rfl hth2 sizeU2 (all_oneCell_toArray (uV_one L 4)) ?_
        refine hK.out _ _ hn2.range (fun _ => trivial) ?_
        clear hK K
        refine anyT_takeT (i := 8) (v := .bool true) rfl (by kernel_rfl) (by kernel_rfl) (by kernel_rfl) (by kernel_rfl) (fun _ _ _ h => h) (Or.inl ⟨by rfl, fun X hSw => by ((try dsimp only at hSw); go_simp)⟩) hn2.range (fun _ => trivial) ?_
        simp only [Act.put, List.getElem_toArray, List.getElem_cons_zero, List.getElem_cons_succ, List.setIfInBounds_toArray, List.set_cons_zero, List.set_cons_succ]
        refine anyT_done (by kernel_rfl) ?_ _
        refine NoPanic.normal ?_
        generalize World.setCells wY8 g3 0 _ = w5 at hp hn2 hr2 bel2 h32 ⊢
        clear hp hth2 h3_8 hlt3 hnw hrw bel1 CP CL
        have hra := h32.range
        have hp := hn2.put (f' := L)
        have hth := hn2.there2 (f' := L)
        have hr3 := hr2.kept hp.2 hne.symm
        have bel3 := bel2.grown hp.2 (Nat.le_trans (Nat.le_of_lt (Nat.lt_of_le_of_lt hn2.lt.1 hn2.lt.2)) (Nat.le_refl _)) (fun k hk => by cases hk; exact Nat.le_refl _)
        have hn3 := hp.1
        clear hp h32 hn2 hr2 bel2
        obtain ⟨Cs, hCs⟩ : ∃ Cs, Cs = uV L 4 := ⟨_, rfl⟩
        have hsz := sizeU (f := L)
        have hsz2 := sizeU2 (f := L)
        have hone := uV_one L 4
        rw [← hCs] at hra hth hr3 bel3 hn3 hsz hsz2 hone
        clear hCs
        go_wp2_with (first | (refine wpList_load_mid rfl 112 _ rfl g3 0 rfl Cs _ hra Tryz.underlying112 rfl hsz ?_) | (refine wpList_store_mid rfl 112 _ _ rfl w.heap.size 0 Cs.toArray rfl rfl hth hsz2 (all_oneCell_toArray hone) ?_))
        refine ⟨⟨_, _, _, _, _, _, _, _, _, _, _, _, ?rel, rfl⟩, ?measure⟩
        case rel => exact ⟨u, lz2, hzx2, by rw [← hL.out]; exact hn3, hr3, bel3⟩
        case measure =>
          rw [hn3.num, HM.out, hL.out, val_four lz2.1 lz2.2]
          exact hlt.out
    · have hdc : decide (fldP ≤ z) = false := by simp [hle]
      rw [hdc] at CL
      have hVz : V = numU z := by rw [hV.out, ← hzx.out, Int.emod_eq_of_lt lz.1 (by omega)]
      rw [← hVz] at hn CL
      obtain ⟨L, hL⟩ : ∃ L, L = numU ((z - fldP) % bU ^ 4) := ⟨_, rfl⟩
      rw [← hL] at CL
      clear hL hdc hVz hV hzx HM hle
      obtain ⟨W, hW⟩ : ∃ W, W = wr.drew := ⟨_, rfl⟩
      rw [← hW] at hn hr bel
      replace hW : Hid (W = wr.drew) := hW
      go_wp2_with (fail)
      refine wp_region_noPanic ?_
      refine wp_region_T 99 (fun X => X.rangeAt w.heap.size 0 (uV V 4)) (fun _ => True) (by kernel_rfl) ?_
      rw [← hW.out]
      clear hW
      have kX : Below W.heap.size W W := Below.refl _ _
      have hLO : Hid (∃ LO, LO = W.heap.size) := ⟨_, rfl⟩
      obtain ⟨LO, hLO⟩ := hLO.out
      replace hLO : Hid (LO = W.heap.size) := hLO
      refine anyT_takeT (i := 0) rfl (by kernel_rfl) (by kernel_rfl) (by kernel_rfl) (by kernel_rfl) (fun _ _ _ h => h) (yieldsIf_load_mid (by rfl) _ _ rfl _ _ rfl (uV V 4) _ (fun _ hw => hw) Tryz.underlying112 rfl sizeU) (hn.below kX).range (fun _ => trivial) ?_
      simp only [Act.put, List.getElem_toArray, List.getElem_cons_zero, List.setIfInBounds_toArray, List.set_cons_zero, List.set_cons_succ]
      refine anyT_two (i := 1) (j := 6) (by kernel_rfl) rfl rfl (fun K hK => ?_) (fun K hK => ?_)
      · go_simp
        refine (CP _).mono ?_
        rintro e wY1 ⟨rfl, bY1⟩
        have kY1 := below_on kX bY1
        go_wp2_with (fail)
        refine hK.out _ _ (hn.below kY1).range (fun _ => trivial) ?_
        clear hK K
        refine anyT_two (i := 2) (j := 6) (by kernel_rfl) rfl rfl (fun K hK => ?_) (fun K hK => ?_)
        · go_simp
          refine (CL _).mono ?_
          rintro e wY2 ⟨rfl, bY2⟩
          have kY2 := below_on kY1 bY2
          go_wp2_with (fail)
          refine hK.out _ _ (hn.below kY2).range (fun _ => trivial) ?_
          clear hK K
          refine anyT_takeT (i := 3) (v := .tuple #[.agg (uV L 4).toArray, .bool false]) rfl (by kernel_rfl) (by kernel_rfl) (by kernel_rfl) (by kernel_rfl) (fun _ _ _ h => h) (Or.inl ⟨by rfl, fun X hSw => by ((try dsimp only at hSw); go_simp)⟩) (hn.below kY2).range (fun _ => trivial) ?_
          simp only [Act.put, List.getElem_toArray, List.getElem_cons_zero, List.getElem_cons_succ, List.setIfInBounds_toArray, List.set_cons_zero, List.set_cons_succ]
          refine anyT_takeT (i := 4) (v := .agg (uV L 4).toArray) rfl (by kernel_rfl) (by kernel_rfl) (by kernel_rfl) (by kernel_rfl) (fun _ _ _ h => h) (Or.inl ⟨by rfl, fun X hSw => by ((try dsimp only at hSw); go_simp)⟩) (hn.below kY2).range (fun _ => trivial) ?_
          simp only [Act.put, List.getElem_toArray, List.getElem_cons_zero, List.getElem_cons_succ, List.setIfInBounds_toArray, List.set_cons_zero, List.set_cons_succ]
          refine anyT_takeT (i := 5) (v := .bool false) rfl (by kernel_rfl) (by kernel_rfl) (by kernel_rfl) (by kernel_rfl) (fun _ _ _ h => h) (Or.inl ⟨by rfl, fun X hSw => by ((try dsimp only at hSw); go_simp)⟩) (hn.below kY2).range (fun _ => trivial) ?_
          simp only [Act.put, List.getElem_toArray, List.getElem_cons_zero, List.getElem_cons_succ, List.setIfInBounds_toArray, List.set_cons_zero, List.set_cons_succ]
          refine anyT_one (i := 6) (by kernel_rfl) rfl (fun K hK => ?_)
          go_simp
          have h3_3 := RowU.made wY2 112 4 LO (fun _ => 0) (by decide) (by rw [hLO.out]; exact Below.size kY2)
          rw [← hZ.out] at h3_3
          have bY3 : Below wY2.heap.size wY2 (wY2.alloc (.cells Z 112)) := (Below.refl _ _).alloc (Nat.le_refl _) _
          have kY3 := below_on kY2 bY3
          refine hK.out _ _ (hn.below kY3).range (fun _ => trivial) ?_
          clear hK K
          generalize wY2.alloc (.cells Z 112) = wY3 at h3_3 bY3 kY3 ⊢
          obtain ⟨g3, hg3⟩ : ∃ g3, g3 = wY2.heap.size := ⟨_, rfl⟩
          rw [← hg3] at h3_3 ⊢
          clear hg3
          have hp := RowU.put h3_3 (f' := L)
          have hth2 := RowU.there2 h3_3 (f' := L)
          have hlt3 := RowU.lt h3_3
          rw [hLO.out] at hlt3
          have hnw := hn.lt
          have hrw := hr.lt
          have hn2 := (hn.below kY3).kept hp.2 (by omega)
          have hr2 := (hr.below kY3).kept hp.2 (by omega)
          have bel1 := below_on bel kY3
          have bel2 := bel1.grown hp.2 (Nat.le_trans (Nat.le_of_lt (Nat.lt_of_le_of_lt hnw.1 hnw.2)) (Below.size kY3)) (fun k hk => by cases hk; omega)
          have h32 := hp.1
          have hg3n : w.heap.size ≠ g3 := by omega
          have hg3w : w.heap.size ≤ g3 := by omega
          refine anyT_one (i := 7) (by kernel_rfl) rfl (fun K hK => ?_)
          refine wp_store_mid 112 _ _ rfl g3 0 (uV L 4).toArray rfl rfl hth2 sizeU2 (all_oneCell_toArray (uV_one L 4)) ?_
          refine hK.out _ _ hn2.range (fun _ => trivial) ?_
          clear hK K
          refine anyT_takeT (i := 8) (v := .bool false) rfl (by kernel_rfl) (by kernel_rfl) (by kernel_rfl) (by kernel_rfl) (fun _ _ _ h => h) (Or.inl ⟨by rfl, fun X hSw => by ((try dsimp only at hSw); go_simp)⟩) hn2.range (fun _ => trivial) ?_
          simp only [Act.put, List.getElem_toArray, List.getElem_cons_zero, List.getElem_cons_succ, List.setIfInBounds_toArray, List.set_cons_zero, List.set_cons_succ]
          refine anyT_done (by kernel_rfl) ?_ _
          refine NoPanic.normal ?_
          generalize World.setCells wY3 g3 0 _ = w5 at hp hn2 hr2 bel2 h32 ⊢
          clear hp hth2 h3_3 hlt3 hnw hrw bel1 CP CL
          have hra := hn2.range
          have hp := hr2.put (f' := V)
          have hth := hr2.there2 (f' := V)
          have hbel := bel2.grown hp.2 (Nat.le_trans (Nat.le_of_lt (Nat.lt_of_le_of_lt hn2.lt.1 hn2.lt.2)) (Nat.le_refl _)) (fun k hk => by cases hk; exact hloR)
          have hld := run_loadVar_mid (P := Tryz.prog) _ G1 0 112 _ _ hp.1.range Tryz.underlying112 rfl sizeU
          clear hp h32 hn2 hr2 bel2
          have hsz := sizeU (f := V)
          have hsz2 := sizeU2 (f := V)
          have hone := uV_one V 4
          go_wp2_with (first | (refine wpList_load_mid rfl 112 _ rfl w.heap.size 0 rfl (uV V 4) _ hra Tryz.underlying112 rfl hsz ?_) | (refine wpList_store_mid rfl 112 _ _ rfl G1 0 (uV V 4).toArray rfl rfl hth hsz2 (all_oneCell_toArray hone) ?_))
          (try simp only [Exit.inBlock, Exit.then])
          refine bodyPost_ret (v := .agg (uV V 4).toArray) ?_ rfl ⟨rfl, hbel⟩
          simp [results, asAddr, Act.put, hld]
        · go_simp
          have h3_4 := RowU.made wY1 112 4 LO (fun _ => 0) (by decide) (by rw [hLO.out]; exact Below.size kY1)
          rw [← hZ.out] at h3_4
          have bY4 : Below wY1.heap.size wY1 (wY1.alloc (.cells Z 112)) := (Below.refl _ _).alloc (Nat.le_refl _) _
          have kY4 := below_on kY1 bY4
          refine hK.out _ _ (hn.below kY4).range (fun _ => trivial) ?_
          clear hK K
          generalize wY1.alloc (.cells Z 112) = wY4 at h3_4 bY4 kY4 ⊢
          obtain ⟨g3, hg3⟩ : ∃ g3, g3 = wY1.heap.size := ⟨_, rfl⟩
          rw [← hg3] at h3_4 ⊢
          clear hg3
          refine anyT_one (i := 2) (by kernel_rfl) rfl (fun K hK => ?_)
          go_simp
          refine (CL _).mono ?_
          rintro e wY5 ⟨rfl, bY5⟩
          have kY5 := below_on kY4 bY5
          have h3_5 := RowU.below h3_4 bY5
          go_wp2_with (fail)
          refine hK.out _ _ (hn.below kY5).range (fun _ => trivial) ?_
          clear hK K
          refine anyT_takeT (i := 3) (v := .tuple #[.agg (uV L 4).toArray, .bool false]) rfl (by kernel_rfl) (by kernel_rfl) (by kernel_rfl) (by kernel_rfl) (fun _ _ _ h => h) (Or.inl ⟨by rfl, fun X hSw => by ((try dsimp only at hSw); go_simp)⟩) (hn.below kY5).range (fun _ => trivial) ?_
          simp only [Act.put, List.getElem_toArray, List.getElem_cons_zero, List.getElem_cons_succ, List.setIfInBounds_toArray, List.set_cons_zero, List.set_cons_succ]
          refine anyT_takeT (i := 4) (v := .agg (uV L 4).toArray) rfl (by kernel_rfl) (by kernel_rfl) (by kernel_rfl) (by kernel_rfl) (fun _ _ _ h => h) (Or.inl ⟨by rfl, fun X hSw => by ((try dsimp only at hSw); go_simp)⟩) (hn.below kY5).range (fun _ => trivial) ?_
          simp only [Act.put, List.getElem_toArray, List.getElem_cons_zero, List.getElem_cons_succ, List.setIfInBounds_toArray, List.set_cons_zero, List.set_cons_succ]
          refine anyT_takeT (i := 5) (v := .bool false) rfl (by kernel_rfl) (by kernel_rfl) (by kernel_rfl) (by kernel_rfl) (fun _ _ _ h => h) (Or.inl ⟨by rfl, fun X hSw => by ((try dsimp only at hSw); go_simp)⟩) (hn.below kY5).range (fun _ => trivial) ?_
          simp only [Act.put, List.getElem_toArray, List.getElem_cons_zero, List.getElem_cons_succ, List.setIfInBounds_toArray, List.set_cons_zero, List.set_cons_succ]
          have hp := RowU.put h3_5 (f' := L)
          have hth2 := RowU.there2 h3_5 (f' := L)
          have hlt3 := RowU.lt h3_5
          rw [hLO.out] at hlt3
          have hnw := hn.lt
          have hrw := hr.lt
          have hn2 := (hn.below kY5).kept hp.2 (by omega)
          have hr2 := (hr.below kY5).kept hp.2 (by omega)
          have bel1 := below_on bel kY5
          have bel2 := bel1.grown hp.2 (Nat.le_trans (Nat.le_of_lt (Nat.lt_of_le_of_lt hnw.1 hnw.2)) (Below.size kY5)) (fun k hk => by cases hk; omega)
          have h32 := hp.1
          have hg3n : w.heap.size ≠ g3 := by omega
          have hg3w : w.heap.size ≤ g3 := by omega
          refine anyT_one (i := 7) (by kernel_rfl) rfl (fun K hK => ?_)
          refine wp_store_mid 112 _ _ rfl g3 0 (uV L 4).toArray rfl rfl hth2 sizeU2 (all_oneCell_toArray (uV_one L 4)) ?_
          refine hK.out _ _ hn2.range (fun _ => trivial) ?_
          clear hK K
          refine anyT_takeT (i := 8) (v := .bool false) rfl (by kernel_rfl) (by kernel_rfl) (by kernel_rfl) (by kernel_rfl) (fun _ _ _ h => h) (Or.inl ⟨by rfl, fun X hSw => by ((try dsimp only at hSw); go_simp)⟩) hn2.range (fun _ => trivial) ?_
          simp only [Act.put, List.getElem_toArray, List.getElem_cons_zero, List.getElem_cons_succ, List.setIfInBounds_toArray, List.set_cons_zero, List.set_cons_succ]
          refine anyT_done (by kernel_rfl) ?_ _
          refine NoPanic.normal ?_
          generalize World.setCells wY5 g3 0 _ = w5 at hp hn2 hr2 bel2 h32 ⊢
          clear hp hth2 h3_5 hlt3 hnw hrw bel1 CP CL
          have hra := hn2.range
          have hp := hr2.put (f' := V)
          have hth := hr2.there2 (f' := V)
          have hbel := bel2.grown hp.2 (Nat.le_trans (Nat.le_of_lt (Nat.lt_of_le_of_lt hn2.lt.1 hn2.lt.2)) (Nat.le_refl _)) (fun k hk => by cases hk; exact hloR)
          have hld := run_loadVar_mid (P := Tryz.prog) _ G1 0 112 _ _ hp.1.range Tryz.underlying112 rfl sizeU
          clear hp h32 hn2 hr2 bel2
          have hsz := sizeU (f := V)
          have hsz2 := sizeU2 (f := V)
          have hone := uV_one V 4
          go_wp2_with (first | (refine wpList_load_mid rfl 112 _ rfl w.heap.size 0 rfl (uV V 4) _ hra Tryz.underlying112 rfl hsz ?_) | (refine wpList_store_mid rfl 112 _ _ rfl G1 0 (uV V 4).toArray rfl rfl hth hsz2 (all_oneCell_toArray hone) ?_))
          (try simp only [Exit.inBlock, Exit.then])
          refine bodyPost_ret (v := .agg (uV V 4).toArray) ?_ rfl ⟨rfl, hbel⟩
          simp [results, asAddr, Act.put, hld]
      · go_simp
        have h3_6 := RowU.made W 112 4 LO (fun _ => 0) (by decide) (by rw [hLO.out]; exact Below.size kX)
        rw [← hZ.out] at h3_6
        have bY6 : Below W.heap.size W (W.alloc (.cells Z 112)) := (Below.refl _ _).alloc (Nat.le_refl _) _
        have kY6 := below_on kX bY6
        refine hK.out _ _ (hn.below kY6).range (fun _ => trivial) ?_
        clear hK K
        generalize W.alloc (.cells Z 112) = wY6 at h3_6 bY6 kY6 ⊢
        obtain ⟨g3, hg3⟩ : ∃ g3, g3 = W.heap.size := ⟨_, rfl⟩
        rw [← hg3] at h3_6 ⊢
        clear hg3
        refine anyT_one (i := 1) (by kernel_rfl) rfl (fun K hK => ?_)
        go_simp
        refine (CP _).mono ?_
        rintro e wY7 ⟨rfl, bY7⟩
        have kY7 := below_on kY6 bY7
        have h3_7 := RowU.below h3_6 bY7
        go_wp2_with (fail)
        refine hK.out _ _ (hn.below kY7).range (fun _ => trivial) ?_
        clear hK K
        refine anyT_one (i := 2) (by kernel_rfl) rfl (fun K hK => ?_)
        go_simp
        refine (CL _).mono ?_
        rintro e wY8 ⟨rfl, bY8⟩
        have kY8 := below_on kY7 bY8
        have h3_8 := RowU.below h3_7 bY8
        go_wp2_with (fail)
        refine hK.out _ _ (hn.below kY8).range (fun _ => trivial) ?_
        clear hK K
        refine anyT_takeT (i := 3) (v := .tuple #[.agg (uV L 4).toArray, .bool false]) rfl (by kernel_rfl) (by kernel_rfl) (by kernel_rfl) (by kernel_rfl) (fun _ _ _ h => h) (Or.inl ⟨by rfl, fun X hSw => by ((try dsimp only at hSw); go_simp)⟩) (hn.below kY8).range (fun _ => trivial) ?_
        simp only [Act.put, List.getElem_toArray, List.getElem_cons_zero, List.getElem_cons_succ, List.setIfInBounds_toArray, List.set_cons_zero, List.set_cons_succ]
        refine anyT_takeT (i := 4) (v := .agg (uV L 4).toArray) rfl (by kernel_rfl) (by kernel_rfl) (by kernel_rfl) (by kernel_rfl) (fun _ _ _ h => h) (Or.inl ⟨by rfl, fun X hSw => by ((try dsimp only at hSw); go_simp)⟩) (hn.below kY8).range (fun _ => trivial) ?_
        simp only [Act.put, List.getElem_toArray, List.getElem_cons_zero, List.getElem_cons_succ, List.setIfInBounds_toArray, List.set_cons_zero, List.set_cons_succ]
        refine anyT_takeT (i := 5) (v := .bool false) rfl (by kernel_rfl) (by kernel_rfl) (by kernel_rfl) (by kernel_rfl) (fun _ _ _ h => h) (Or.inl ⟨by rfl, fun X hSw => by ((try dsimp only at hSw); go_simp)⟩) (hn.below kY8).range (fun _ => trivial) ?_
        simp only [Act.put, List.getElem_toArray, List.getElem_cons_zero, List.getElem_cons_succ, List.setIfInBounds_toArray, List.set_cons_zero, List.set_cons_succ]
        have hp := RowU.put h3_8 (f' := L)
        have hth2 := RowU.there2 h3_8 (f' := L)
        have hlt3 := RowU.lt h3_8
        rw [hLO.out] at hlt3
        have hnw := hn.lt
        have hrw := hr.lt
        have hn2 := (hn.below kY8).kept hp.2 (by omega)
        have hr2 := (hr.below kY8).kept hp.2 (by omega)
        have bel1 := below_on bel kY8
        have bel2 := bel1.grown hp.2 (Nat.le_trans (Nat.le_of_lt (Nat.lt_of_le_of_lt hnw.1 hnw.2)) (Below.size kY8)) (fun k hk => by cases hk; omega)
        have h32 := hp.1
        have hg3n : w.heap.size ≠ g3 := by omega
        have hg3w : w.heap.size ≤ g3 := by omega
        refine anyT_one (i := 7) (by kernel_rfl) rfl (fun K hK => ?_)
        refine wp_store_mid 112 _ _ rfl g3 0 (uV L 4).toArray rfl rfl hth2 sizeU2 (all_oneCell_toArray (uV_one L 4)) ?_
        refine hK.out _ _ hn2.range (fun _ => trivial) ?_
        clear hK K
        refine anyT_takeT (i := 8) (v := .bool false) rfl (by kernel_rfl) (by kernel_rfl) (by kernel_rfl) (by kernel_rfl) (fun _ _ _ h => h) (Or.inl ⟨by rfl, fun X hSw => by ((try dsimp only at hSw); go_simp)⟩) hn2.range (fun _ => trivial) ?_
        simp only [Act.put, List.getElem_toArray, List.getElem_cons_zero, List.getElem_cons_succ, List.setIfInBounds_toArray, List.set_cons_zero, List.set_cons_succ]
        refine anyT_done (by kernel_rfl) ?_ _
        refine NoPanic.normal ?_
        generalize World.setCells wY8 g3 0 _ = w5 at hp hn2 hr2 bel2 h32 ⊢
        clear hp hth2 h3_8 hlt3 hnw hrw bel1 CP CL
        have hra := hn2.range
        have hp := hr2.put (f' := V)
        have hth := hr2.there2 (f' := V)
        have hbel := bel2.grown hp.2 (Nat.le_trans (Nat.le_of_lt (Nat.lt_of_le_of_lt hn2.lt.1 hn2.lt.2)) (Nat.le_refl _)) (fun k hk => by cases hk; exact hloR)
        have hld := run_loadVar_mid (P := Tryz.prog) _ G1 0 112 _ _ hp.1.range Tryz.underlying112 rfl sizeU
        clear hp h32 hn2 hr2 bel2
        have hsz := sizeU (f := V)
        have hsz2 := sizeU2 (f := V)
        have hone := uV_one V 4
        go_wp2_with (first | (refine wpList_load_mid rfl 112 _ rfl w.heap.size 0 rfl (uV V 4) _ hra Tryz.underlying112 rfl hsz ?_) | (refine wpList_store_mid rfl 112 _ _ rfl G1 0 (uV V 4).toArray rfl rfl hth hsz2 (all_oneCell_toArray hone) ?_))
        (try simp only [Exit.inBlock, Exit.then])
        refine bodyPost_ret (v := .agg (uV V 4).toArray) ?_ rfl ⟨rfl, hbel⟩
        simp [results, asAddr, Act.put, hld]
theorem cutD (q C D E : Int) (hC : 0 < C) : q % (C * (D * E)) / C % D = q / C % D := by
  have h := Int.mul_ediv_add_emod q (C * (D * E))
  have e : q = q % (C * (D * E)) + C * (D * (E * (q / (C * (D * E))))) := by
    have : C * (D * E) * (q / (C * (D * E))) = C * (D * (E * (q / (C * (D * E))))) := by simp only [Int.mul_assoc]
    omega
  have e2 : q / C = q % (C * (D * E)) / C + D * (E * (q / (C * (D * E)))) := by
    conv => lhs; rw [e]
    rw [Int.add_mul_ediv_left _ _ (by omega)]
  rw [e2, Int.add_mul_emod_self_left]
theorem bU_cut (p : Nat) (hp : p < 8) : ∃ E : Int, bU = 2 ^ (8 * p) * (256 * E) := by
  have hc : p = 0 ∨ p = 1 ∨ p = 2 ∨ p = 3 ∨ p = 4 ∨ p = 5 ∨ p = 6 ∨ p = 7 := by omega
  rcases hc with rfl | rfl | rfl | rfl | rfl | rfl | rfl | rfl
  · exact ⟨72057594037927936, by decide⟩
  · exact ⟨281474976710656, by decide⟩
  · exact ⟨1099511627776, by decide⟩
  · exact ⟨4294967296, by decide⟩
  · exact ⟨16777216, by decide⟩
  · exact ⟨65536, by decide⟩
  · exact ⟨256, by decide⟩
  · exact ⟨1, by decide⟩
theorem pow8 (p : Nat) : (2 : Int) ^ (8 * p) = 256 ^ p := by rw [Int.pow_mul]; rfl
theorem powB (i : Nat) : bU ^ i = 256 ^ (8 * i) := by rw [Int.pow_mul]; rfl
theorem byte_num (z : Int) (i p : Nat) (hp : p < 8) : numU z i / 2 ^ (8 * p) % 256 = z / 256 ^ (8 * i + p) % 256 := by
  obtain ⟨E, hE⟩ := bU_cut p hp
  have h2 : (0 : Int) < 2 ^ (8 * p) := Int.pow_pos (by decide)
  have hB := powU_pos i
  rw [numU]
  conv => lhs; lhs; lhs; rhs; rw [hE]
  rw [cutD _ _ _ _ h2, Int.ediv_ediv_of_nonneg (by omega), pow8, powB, ← Int.pow_add]
theorem numB_at (z : Int) (j : Nat) (hj : j < 32) : (numB z).getD j 0 = z / 256 ^ j % 256 := by
  have e16 : ∀ i : Nat, (65536 : Int) ^ i = 256 ^ (2 * i) := fun i => by rw [Int.pow_mul]; rfl
  have hp : ∀ i : Nat, (0 : Int) < 65536 ^ i := fun i => Int.pow_pos (by decide)
  rcases Nat.mod_two_eq_zero_or_one j with h | h
  · obtain ⟨i, rfl⟩ : ∃ i, j = 2 * i := ⟨j / 2, by omega⟩
    rw [numB_lo z i (by omega), ← e16]
    generalize z / 65536 ^ i = q
    omega
  · obtain ⟨i, rfl⟩ : ∃ i, j = 2 * i + 1 := ⟨j / 2, by omega⟩
    have e : z / 256 ^ (2 * i + 1) = z / 65536 ^ i / 256 := by
      rw [Int.ediv_ediv_of_nonneg (by have := hp i; omega), e16, ← Int.pow_succ]
    rw [numB_hi z i (by omega), e]
    generalize z / 65536 ^ i = q
    omega
theorem byteF_at (z : Int) (i p : Nat) (hi : i < 4) (hp : p < 8) : numU z i / 2 ^ (8 * p) % 256 = (numB z).getD (8 * i + p) 0 := by
  rw [byte_num z i p hp, numB_at z (8 * i + p) (by omega)]
def byF (xs : List Int) (i : Nat) : Nat → Nat
  | 0 => 0
  | p + 1 => byF xs i p + (xs.getD (8 * i + p) 0).toNat * 2 ^ (8 * p)
theorem byF_lt {xs : List Int} (hb : ∀ x ∈ xs, 0 ≤ x ∧ x < 256) (i : Nat) : ∀ p, byF xs i p < 2 ^ (8 * p)
  | 0 => by simp [byF]
  | p + 1 => by
    have ih := byF_lt hb i p
    have hx := byteZ hb (8 * i + p)
    have h1 : (xs.getD (8 * i + p) 0).toNat * 2 ^ (8 * p) ≤ 255 * 2 ^ (8 * p) := Nat.mul_le_mul_right _ (by omega)
    rw [byF, show 8 * (p + 1) = 8 * p + 8 by omega, Nat.pow_add]
    omega
theorem or_low {a b i : Nat} (ha : a < 2 ^ i) : a ||| b * 2 ^ i = a + b * 2 ^ i := by
  have h := Nat.two_pow_add_eq_or_of_lt ha b
  rw [Nat.or_comm, Nat.mul_comm b, ← h, Nat.add_comm]
theorem or_step {xs : List Int} (hb : ∀ x ∈ xs, 0 ≤ x ∧ x < 256) (i p : Nat) (hp : p < 8) : bits .or .u64 (byF xs i p : Int) (((xs.getD (8 * i + p) 0).toNat * 2 ^ (8 * p) : Nat) : Int) = (byF xs i (p + 1) : Int) := by
  have h1 := byF_lt hb i p
  have h2 := byF_lt hb i (p + 1)
  have h3 : 2 ^ (8 * (p + 1)) ≤ 2 ^ 64 := Nat.pow_le_pow_right (by decide) (by omega)
  have h4 : 2 ^ (8 * p) ≤ 2 ^ 64 := Nat.pow_le_pow_right (by decide) (by omega)
  have e64 : (2 : Nat) ^ 64 = 18446744073709551616 := by decide
  rw [byF] at h2 ⊢
  rw [bits_or_u64_nat _ _ (by omega) (by omega), or_low h1]
theorem top_off (v : Nat) (hv : v < 18446744073709551616) : bits .andNot .u64 (v : Int) 9223372036854775808 = ((v % 9223372036854775808 : Nat) : Int) := by
  have h := u64_andNot_nat v 9223372036854775808 hv (by omega)
  have e : v &&& (18446744073709551615 - 9223372036854775808) = v % 9223372036854775808 := Nat.and_two_pow_sub_one_eq_mod v 63
  rw [e] at h
  exact h
def rdU (xs : List Int) (i : Nat) : Int := if i = 3 then ((byF xs 3 8 % 9223372036854775808 : Nat) : Int) else (byF xs i 8 : Int)
theorem rdU_range {xs : List Int} (hb : ∀ x ∈ xs, 0 ≤ x ∧ x < 256) (i : Nat) : 0 ≤ rdU xs i ∧ rdU xs i < bU := by
  have h := byF_lt hb i 8
  have e64 : (2 : Nat) ^ (8 * 8) = 18446744073709551616 := by decide
  unfold rdU bU
  split <;> omega
theorem val_rdU {xs : List Int} (hb : ∀ x ∈ xs, 0 ≤ x ∧ x < 256) : valU (rdU xs) 4 = numF xs := by
  have hz : ∀ j, ((xs.getD j 0).toNat : Int) = xs.getD j 0 := fun j => Int.toNat_of_nonneg (byteZ hb j).1
  have hr := fun j => byteZ hb j
  have top : ∀ L M : Nat, L < 281474976710656 → (L + M * 281474976710656) % 9223372036854775808 = L + (M % 32768) * 281474976710656 := fun L M h => by omega
  have h6 := byF_lt hb 3 6
  have e6 : (2 : Nat) ^ (8 * 6) = 281474976710656 := by decide
  rw [e6] at h6
  have e8 : byF xs 3 8 = byF xs 3 6 + ((xs.getD 30 0).toNat + 256 * (xs.getD 31 0).toNat) * 281474976710656 := by
    simp only [byF, Nat.reduceMul, Nat.reduceAdd, Nat.reducePow]
    omega
  have et : ((byF xs 3 8 % 9223372036854775808 : Nat) : Int) = (byF xs 3 6 : Int) + (pairZ xs 15 % 32768) * 281474976710656 := by
    rw [e8, top _ _ h6]
    have h30 := hz 30
    have h31 := hz 31
    unfold pairZ
    simp only [Nat.reduceMul, Nat.reduceAdd]
    omega
  have part : ∀ i, (byF xs i 8 : Int) = pairZ xs (4 * i) + pairZ xs (4 * i + 1) * 65536 + pairZ xs (4 * i + 2) * 4294967296 + pairZ xs (4 * i + 3) * 281474976710656 := by
    intro i
    have h0 := hz (8 * i)
    have h1 := hz (8 * i + 1)
    have h2 := hz (8 * i + 2)
    have h3 := hz (8 * i + 3)
    have h4 := hz (8 * i + 4)
    have h5 := hz (8 * i + 5)
    have h6 := hz (8 * i + 6)
    have h7 := hz (8 * i + 7)
    unfold pairZ
    rw [show 2 * (4 * i) = 8 * i by omega, show 2 * (4 * i + 1) = 8 * i + 2 by omega, show 2 * (4 * i + 2) = 8 * i + 4 by omega, show 2 * (4 * i + 3) = 8 * i + 6 by omega]
    simp only [byF, Nat.add_zero, Nat.add_assoc, Nat.reduceAdd, Nat.reduceMul, Nat.reducePow]
    omega
  have part3 : (byF xs 3 6 : Int) = pairZ xs 12 + pairZ xs 13 * 65536 + pairZ xs 14 * 4294967296 := by
    have h0 := hz 24
    have h1 := hz 25
    have h2 := hz 26
    have h3 := hz 27
    have h4 := hz 28
    have h5 := hz 29
    unfold pairZ
    simp only [byF, Nat.add_zero, Nat.reduceMul, Nat.reduceAdd, Nat.reducePow]
    omega
  have p0 := part 0
  have p1 := part 1
  have p2 := part 2
  simp only [Nat.reduceMul, Nat.reduceAdd] at p0 p1 p2
  have l0 : rdU xs 0 = (byF xs 0 8 : Int) := rfl
  have l1 : rdU xs 1 = (byF xs 1 8 : Int) := rfl
  have l2 : rdU xs 2 = (byF xs 2 8 : Int) := rfl
  have l3 : rdU xs 3 = ((byF xs 3 8 % 9223372036854775808 : Nat) : Int) := rfl
  unfold numF
  have o : ∀ i, i ≠ 15 → ofZ xs i = pairZ xs i := fun i h => if_neg h
  have o15 : ofZ xs 15 = pairZ xs 15 % 32768 := if_pos rfl
  simp only [valU, valZ, l0, l1, l2, l3, et, part3, p0, p1, p2, bU, Int.reducePow, o 0 (by decide), o 1 (by decide), o 2 (by decide), o 3 (by decide), o 4 (by decide), o 5 (by decide), o 6 (by decide), o 7 (by decide), o 8 (by decide), o 9 (by decide), o 10 (by decide), o 11 (by decide), o 12 (by decide), o 13 (by decide), o 14 (by decide), o15]
  omega
theorem num_of_parts {f : Nat → Int} {n : Nat} (h : ∀ i, i < n → 0 ≤ f i ∧ f i < bU) {k : Nat} (hk : k < n) : f k = numU (valU f n) k := by
  have hc : ∀ j, j ≤ n → carU f 0 j = 0 := by
    intro j
    induction j with
    | zero => intro _; rfl
    | succ j ih =>
      intro hj
      have := h j (by omega)
      rw [carU, ih (by omega), Int.add_zero, Int.ediv_eq_zero_of_lt this.1 this.2]
  have e := digU_num f 0 hk
  rw [Int.add_zero] at e
  have := h k hk
  rw [← e, digU, hc k (by omega), Int.add_zero, Int.emod_eq_of_lt this.1 this.2]
theorem index4 (f : Nat → Int) (k : Nat) (hk : k < 4) (w : World) : (Instr.index 112 (.agg (uV f 4).toArray) (.int .i64 (k : Int))).run Tryz.prog w = .ok (.int .u64 (f k)) w := by
  have h0 : (Instr.index 112 (.agg (uV f 4).toArray) (.int .i64 0)).run Tryz.prog w = .ok (.int .u64 (f 0)) w := by kernel_rfl
  have h1 : (Instr.index 112 (.agg (uV f 4).toArray) (.int .i64 1)).run Tryz.prog w = .ok (.int .u64 (f 1)) w := by kernel_rfl
  have h2 : (Instr.index 112 (.agg (uV f 4).toArray) (.int .i64 2)).run Tryz.prog w = .ok (.int .u64 (f 2)) w := by kernel_rfl
  have h3 : (Instr.index 112 (.agg (uV f 4).toArray) (.int .i64 3)).run Tryz.prog w = .ok (.int .u64 (f 3)) w := by kernel_rfl
  have hc : k = 0 ∨ k = 1 ∨ k = 2 ∨ k = 3 := by omega
  rcases hc with rfl | rfl | rfl | rfl
  · exact h0
  · exact h1
  · exact h2
  · exact h3
theorem cut_run (b o c k8 k16 : Nat) (h8 : k16 = k8 + 8) (h32 : k16 ≤ 32) (hc : 32 ≤ c) (W : World) : (Instr.slice 22 (.slice (some ⟨b, o, none⟩) 32 c) (some (.int .i64 (k8 : Int))) (some (.int .i64 (k16 : Int))) (some (.int .i64 (k16 : Int)))).run Tryz.prog W = .ok (.slice (some ⟨b, o + k8, none⟩) 8 8) W := by
  have ht' : Tryz.prog.underlying 22 = some (.slice (Tryz.prog.elem 22)) := by simp [Program.elem, Tryz.underlying22]
  have he : Tryz.prog.elem 22 = 5 := by simp [Program.elem, Tryz.underlying22]
  obtain ⟨i0, hi, hz0, hz1, hz2⟩ := info_parts infoByte
  rw [run_slice_lhm W 22 _ _ _ ht' .i64 .i64 .i64 k8 k16 k16 (by omega) (by omega) (by omega) (by omega), he]
  have e1 : k16 - k8 = 8 := by omega
  have e2 : ¬ k16 = k8 := by omega
  simp [sizeOf, typeInfo, hi, hz1, sliced, Addr.add, e1, e2]
set_option maxHeartbeats 2000000 in
theorem cutPart_any (b o c k : Nat) (w : World) (hk : k < 4) (hc : 32 ≤ c) :
    Calls Tryz.prog 126 #[.slice (some ⟨b, o, none⟩) 32 c, .int .i64 (k : Int)] w fun e w' => e = .returned (.slice (some ⟨b, o + 8 * k, none⟩) 8 8) ∧ w' = w := by
  obtain ⟨k8, h8⟩ : ∃ k8, k8 = 8 * k := ⟨_, rfl⟩
  obtain ⟨k16, h16⟩ : ∃ k16, k16 = k8 + 8 := ⟨_, rfl⟩
  have hr := cut_run b o c k8 k16 h16 (by omega) hc
  have e1 : (k : Int) * 8 = (k8 : Int) := by omega
  have e2 : (k8 : Int) + 8 = (k16 : Int) := by omega
  have l1 : (k8 : Int) < 25 := by omega
  have l2 : (k16 : Int) < 33 := by omega
  rw [← h8]
  clear h8 h16 hk hc
  go_enter Tryz.func126, Tryz.ntmps126
  go_wp2_with (fail)
  go_ret
  exact ⟨rfl, rfl⟩
def rdI (xs : List Int) (k p i : Nat) : Int := if i < k then (byF xs i 8 : Int) else if i = k then (byF xs k p : Int) else 0
theorem rdI_zero (xs : List Int) (i : Nat) : rdI xs 0 0 i = 0 := by
  unfold rdI
  rw [if_neg (by omega)]
  split <;> rfl
theorem rdI_at (xs : List Int) (k p : Nat) : rdI xs k p k = (byF xs k p : Int) := by rw [rdI, if_neg (by omega), if_pos rfl]
theorem rdI_step (xs : List Int) (k p i : Nat) : (if i = k then (byF xs k (p + 1) : Int) else rdI xs k p i) = rdI xs k (p + 1) i := by
  unfold rdI
  by_cases h : i = k
  · subst h; rw [if_pos rfl, if_neg (by omega), if_pos rfl]
  · rw [if_neg h]
    by_cases h2 : i < k
    · rw [if_pos h2, if_pos h2]
    · rw [if_neg h2, if_neg h2, if_neg h, if_neg h]
theorem rdI_next (xs : List Int) (k i : Nat) : rdI xs k 8 i = rdI xs (k + 1) 0 i := by
  unfold rdI
  by_cases h : i < k
  · rw [if_pos h, if_pos (by omega)]
  · rw [if_neg h]
    by_cases h2 : i = k
    · subst h2; rw [if_pos rfl, if_pos (by omega)]
    · rw [if_neg h2, if_neg (by omega)]
      split <;> rfl
theorem rdI_end (xs : List Int) {i : Nat} (hi : i < 4) : (if i = 3 then ((byF xs 3 8 % 9223372036854775808 : Nat) : Int) else rdI xs 4 0 i) = rdU xs i := by
  unfold rdU
  split
  · rfl
  · rw [rdI, if_pos hi]
theorem uP_zero : uV (numU 0) 4 = uV (fun _ => 0) 4 := uV_congr fun i _ => num_nought i
set_option maxHeartbeats 4000000 in
theorem readField_no (p : Option Addr) (n c : Nat) (w : World) (hn : n ≠ 32) :
    Calls Tryz.prog 93 #[.slice p n c] w fun e w' => e = .returned (.tuple #[uP 0, .bool false]) ∧ Below w.heap.size w w' := by
  have hz := (zero_of_info infoU4).1
  have hne : ((n : Int) != 32) = true := by simp; omega
  unfold uP
  rw [uP_zero]
  obtain ⟨Z, hZ⟩ : ∃ Z, Z = (uV (fun _ => 0) 4).toArray := ⟨_, rfl⟩
  obtain ⟨m0, m1, bel0, sz⟩ := rows2 w (fun _ => 0) (fun _ => 0) hZ hZ
  rw [← hZ] at hz
  have hra := m1.range
  have hp := m0.put (f' := fun _ => 0)
  have hth := m0.there2 (f' := fun _ => 0)
  have hbel := bel0.grown hp.2 (by omega) (fun k hk => by cases hk; exact Nat.le_refl _)
  have hld := run_loadVar_mid (P := Tryz.prog) _ w.heap.size 0 112 _ _ hp.1.range Tryz.underlying112 rfl sizeU
  have hone := uV_one (fun _ => 0) 4
  have hsz := sizeU (f := fun _ => 0)
  have hsz2 := sizeU2 (f := fun _ => 0)
  obtain ⟨Cs, hCs⟩ : ∃ Cs, Cs = uV (fun _ => 0) 4 := ⟨_, rfl⟩
  rw [← hCs] at hra hth hbel hld hone hsz hsz2
  rw [← hCs] at hZ ⊢
  clear hCs hp m0 m1 bel0 sz hn
  have hZ' : Hid (Z = Cs.toArray) := hZ
  clear hZ
  go_enter Tryz.func93, Tryz.ntmps93
  go_wp2_with (first | (refine wpList_load_mid rfl 112 _ rfl (w.heap.size + 1) 0 rfl Cs _ hra Tryz.underlying112 rfl hsz ?_) | (refine wpList_store_mid rfl 112 _ _ rfl w.heap.size 0 Cs.toArray rfl rfl hth hsz2 (all_oneCell_toArray hone) ?_))
  (try simp only [Exit.inBlock, Exit.then])
  refine bodyPost_ret (v := .tuple #[.agg Cs.toArray, .bool false]) ?_ rfl ⟨rfl, hbel⟩
  simp [results, asAddr, hld]
set_option maxHeartbeats 8000000 in
theorem bytesU_any (z : Int) (w : World) :
    Calls Tryz.prog 98 #[uP z] w fun e w' => ∃ p', e = .returned (.slice p' 32 32) ∧ Own 5 w' w.heap.size w'.heap.size (.slice p' 32 32) 32 (numB z) ∧ Below w.heap.size w w' := by
  obtain ⟨i0, hi, hz0, hz1, hz2⟩ := info_parts infoByte
  have HG : Hid (∀ i, i < 4 → ∀ p, p < 8 → numU z i / 2 ^ (8 * p) % 256 = (numB z).getD (8 * i + p) 0) := fun i hi p hp => byteF_at z i p hi hp
  have hxl := numB_length z
  have m0 := RowU.made w 112 4 w.heap.size (numU z) (by decide) (Nat.le_refl _)
  have ba : Below w.heap.size w (w.alloc (.cells (uV (numU z) 4).toArray 112)) := (Below.refl _ _).alloc (Nat.le_refl _) _
  have HI : Hid (∀ (k : Nat), k < 4 → ∀ (w : World), (Instr.index 112 (.agg (uV (numU z) 4).toArray) (.int .i64 (k : Int))).run Tryz.prog w = .ok (.int .u64 (numU z k)) w) := fun k hk w => index4 (numU z) k hk w
  have hsz := sizeU (f := numU z)
  unfold uP
  obtain ⟨Cs, hCs⟩ : ∃ Cs, Cs = uV (numU z) 4 := ⟨_, rfl⟩
  have HR0 : Hid (∀ X, Below (w.alloc (.cells (uV (numU z) 4).toArray 112)).heap.size (w.alloc (.cells (uV (numU z) 4).toArray 112)) X → X.rangeAt w.heap.size 0 (uV (numU z) 4)) := fun X hX => (m0.below hX).range
  rw [← hCs] at HR0 ba HI hsz ⊢
  have sa : (w.alloc (.cells Cs.toArray 112)).heap.size = w.heap.size + 1 := by simp
  clear hCs m0
  generalize numB z = xs at HG hxl ⊢
  have CC : Hid (∀ (k : Nat), k < 4 → ∀ X, Calls Tryz.prog 126 #[.slice (some ⟨w.heap.size + 1, 0, none⟩) 32 32, .int .i64 (k : Int)] X fun e w' => e = .returned (.slice (some ⟨w.heap.size + 1, 0 + 8 * k, none⟩) 8 8) ∧ w' = X) := fun k hk X => cutPart_any (w.heap.size + 1) 0 32 k X hk (by decide)
  go_enter Tryz.func98, Tryz.ntmps98
  go_wp2_with (at_make; refine wpList_make_full _ rfl _ _ 22 rfl (w.heap.size + 1) 5 i0 (.int .u8 0) 1 Tryz.underlying22 hi hz0 hz1 _ _ _ _ 32 rfl rfl rfl rfl (by rw [hz2]; omega) (by unfold maxLen; omega) (by simp) ?_)
  intro w1 hown hgrow
  rw [fill_start xs 32] at hown
  obtain ⟨G, hG⟩ : ∃ G, G = w.heap.size + 1 := ⟨_, rfl⟩
  have hbel : Below w.heap.size w w1 := ba.grown hgrow (by omega) (fun _ h => by cases h)
  have hr1 : w1.rangeAt w.heap.size 0 Cs := HR0.out _ ((Below.refl _ _).grown hgrow (Nat.le_refl _) (fun _ h => by cases h))
  rw [← hG] at hown CC ⊢
  have hlo : w.heap.size < G := by omega
  replace hown := owns_mono hown (Nat.le_of_lt hlo)
  clear hgrow HR0 ba sa hG
  go_wp2_with (refine wpList_load_mid rfl 112 _ rfl w.heap.size 0 rfl Cs _ hr1 Tryz.underlying112 rfl hsz ?_)
  clear hr1 hsz
  go_loopw [10] (fun i wr => ∃ k : Nat, k ≤ 4 ∧ i = .int .i64 k ∧ wr.ownsRow w.heap.size 5 1 (.slice (some ⟨G, 0, none⟩) 32 32) 32 ((xs.take (8 * k) ++ List.replicate (32 - 8 * k) 0).map (Value.int .u8)) ∧ Below w.heap.size w wr)
    (fun i _ => 4 - (intOf i).toNat)
  case atStart => exact ⟨0, by omega, rfl, hown, hbel⟩
  case round =>
    clear hown hbel
    obtain ⟨k, hk, rfl, hown, hbel⟩ := hrel
    by_cases hlt : k < 4
    · have hlt' : (k : Int) < 4 := by omega
      have C := CC.out k hlt
      have hix := HI.out k hlt
      have hun := numU_range z k
      have HGk := fun p hp => HG.out k hlt p hp
      generalize numU z k = u at hix hun HGk
      replace HGk : Hid (∀ p, p < 8 → u / 2 ^ (8 * p) % 256 = xs.getD (8 * k + p) 0) := HGk
      go_wp2_with (fail)
      refine (C _).mono ?_
      rintro e w2 ⟨rfl, rfl⟩
      clear C hix
      obtain ⟨ok, hok⟩ : ∃ ok, ok = 0 + 8 * k := ⟨_, rfl⟩
      rw [← hok]
      replace hok : Hid (ok = 8 * k) := by rw [Hid, hok, Nat.zero_add]
      rw [← hok.out] at hown
      go_wp2_with (fail)
      go_loopw [19] (fun i wx => ∃ p : Nat, p ≤ 8 ∧ i = .int .i64 p ∧ wx.ownsRow w.heap.size 5 1 (.slice (some ⟨G, 0, none⟩) 32 32) 32 ((xs.take (ok + p) ++ List.replicate (32 - (ok + p)) 0).map (Value.int .u8)) ∧ Below w.heap.size w wx)
        (fun i _ => 8 - (intOf i).toNat)
      case atStart => exact ⟨0, by omega, rfl, hown, hbel⟩
      case round =>
        clear hown hbel
        obtain ⟨p, hp, rfl, hown, hbel⟩ := hrel
        by_cases hlp : p < 8
        · have hlp' : (p : Int) < 8 := by omega
          have hgp := HGk.out p hlp
          rw [← hok.out] at hgp
          have hok32 : ok + p < 32 := by have := hok.out; omega
          have hold : wr.cell? ⟨G, ok + p, none⟩ = some (.int .u8 0) := by
            have := hown.cellAt (ok + p) (by omega)
            rw [this]
            exact fill_old xs 32 (ok + p) hok32 hxl
          have hfz := hown.frozenAt (ok + p)
          have hst := hown.stored (ok + p) (.int .u8 (u / 2 ^ (8 * p) % 256))
          rw [fill_step xs 32 (ok + p) _ hgp hok32 hxl] at hst
          have hbel' := hbel.setCell (p := ⟨G, ok + p, none⟩) (Nat.le_of_lt hlo) (.int .u8 (u / 2 ^ (8 * p) % 256))
          obtain ⟨q, hq⟩ : ∃ q, q = 8 * p := ⟨_, rfl⟩
          rw [← hq] at hst hbel'
          have eq8 : (8 : Int) * (p : Int) = (q : Int) := by omega
          have lq : q < 64 := by omega
          have lq' : (q : Int) < 64 := by omega
          have hvn : 0 ≤ u / 2 ^ q := Int.ediv_nonneg hun.1 (Int.le_of_lt (Int.pow_pos (by decide)))
          have hvl : u / 2 ^ q < 18446744073709551616 := Int.lt_of_le_of_lt (Int.ediv_le_self _ hun.1) hun.2
          obtain ⟨v, hv⟩ : ∃ v, v = u / 2 ^ q := ⟨_, rfl⟩
          have ev : u / 2 ^ q = v := hv.symm
          rw [ev] at hst hbel' hvn hvl
          obtain ⟨s, hs⟩ : ∃ s, s = v % 256 := ⟨_, rfl⟩
          have es : v % 256 = s := hs.symm
          rw [es] at hst hbel'
          have wv : IntKind.u64.wrap v = v := by rw [IntKind.wrap_u64]; omega
          clear hgp hq hown hv hs
          go_wp2_with (fail)
          go_roundw
          case rel => exact ⟨p + 1, by omega, by go_num, hst.1, hbel'⟩
          case measure => simp [intOf]; omega
        · obtain rfl : p = 8 := by omega
          have hno : ¬ ((8 : Nat) : Int) < 8 := by omega
          have e8 : ok + 8 = 8 * (k + 1) := by have := hok.out; omega
          rw [e8] at hown
          go_wp2_with (fail)
          go_roundw
          case rel => exact ⟨k + 1, by omega, by go_num, hown, hbel⟩
          case measure => simp [intOf]; omega
    · obtain rfl : k = 4 := by omega
      have hno : ¬ ((4 : Nat) : Int) < 4 := by omega
      rw [show 8 * 4 = 32 from rfl, fill_end xs 32 hxl] at hown
      go_wp2_with (fail)
      go_ret
      exact ⟨_, rfl, .of hown, hbel⟩
end Go.Proofs.YtnpffnhiefgglaaGreatDoor
