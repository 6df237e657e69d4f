/-
  A part of the proof.
-/
import Derived.Test.YtnpffnhiefgglaaGreatDoorParw35
import Derived.Test.YtnpffnhiefgglaaGreatDoorParw40
import Derived.Test.YtnpffnhiefgglaaGreatDoorParw36
import Derived.Test.YtnpffnhiefgglaaGreatDoorParw39
import Derived.Test.YtnpffnhiefgglaaGreatDoorParw11
namespace Go.Proofs.YtnpffnhiefgglaaGreatDoor
open Go.RowKit
set_option maxRecDepth 100000
theorem inv_exp (a : Nat) (ha : a = 2 ^ 250 - 1) : a * 2 ^ 5 + 11 = (fldP - 2).toNat := by
  subst ha
  decide
set_option maxHeartbeats 8000000 in
theorem inverse_any (x : Int) (w : World) (hx0 : 0 ≤ x) (hx : x < fldP) :
    Calls Tryz.prog 97 #[uP x] w fun e w' => e = .returned (uP (x ^ (fldP - 2).toNat % fldP)) ∧ Below w.heap.size w w' := by
  obtain ⟨a, ha⟩ : ∃ a, a = 2 ^ 250 - 1 := ⟨_, rfl⟩
  have CI : ∀ X, Calls Tryz.prog 133 #[uP x, .int .i64 250] X fun e w' => e = .returned (uP (x ^ a % fldP)) ∧ Below X.heap.size X w' := fun X => by
    have h := ones_any x hx0 hx 250 (by decide) (by decide) X
    rw [← ha] at h
    exact h
  have he := inv_exp a ha
  obtain ⟨V, hV⟩ : ∃ V, V = numU (x ^ (fldP - 2).toNat % fldP) := ⟨_, rfl⟩
  unfold uP
  rw [← hV]
  rw [← he] at hV
  clear he ha
  have CS3 : ∀ X, Calls Tryz.prog 132 #[uP x, .int .i64 3] X fun e w' => e = .returned (uP (x ^ 8 % fldP)) ∧ Below X.heap.size X w' := fun X => squared_any x 3 X hx0 hx (by decide)
  have CS1 : ∀ X, Calls Tryz.prog 132 #[uP x, .int .i64 1] X fun e w' => e = .returned (uP (x ^ 2 % fldP)) ∧ Below X.heap.size X w' := fun X => squared_any x 1 X hx0 hx (by decide)
  have CT1 : ∀ X, Calls Tryz.prog 96 #[uP (x ^ 8 % fldP), uP (x ^ 2 % fldP)] X fun e w' => e = .returned (uP (x ^ 10 % fldP)) ∧ Below X.heap.size X w' := fun X => by
    have h := fieldTimes_any (x ^ 8 % fldP) (x ^ 2 % fldP) X (modP_b4 _).1 (modP_b4 _).2 (modP_b4 _).1 (modP_b4 _).2
    rw [powP_mul] at h
    exact h
  have CT2 : ∀ X, Calls Tryz.prog 96 #[uP (x ^ 10 % fldP), uP x] X fun e w' => e = .returned (uP (x ^ 11 % fldP)) ∧ Below X.heap.size X w' := fun X => by
    have h := fieldTimes_any (x ^ 10 % fldP) x X (modP_b4 _).1 (modP_b4 _).2 hx0 (by have := b4U; omega)
    rw [left_mul, ← Int.pow_succ] at h
    exact h
  have CS5 : ∀ X, Calls Tryz.prog 132 #[uP (x ^ a % fldP), .int .i64 5] X fun e w' => e = .returned (uP (x ^ (a * 2 ^ 5) % fldP)) ∧ Below X.heap.size X w' := fun X => by
    have h := squared_any (x ^ a % fldP) 5 X (modP_range _).1 (modP_range _).2 (by decide)
    rw [powP_pow] at h
    exact h
  have CT5 : ∀ X, Calls Tryz.prog 96 #[uP (x ^ (a * 2 ^ 5) % fldP), uP (x ^ 11 % fldP)] X fun e w' => e = .returned (uP (x ^ (a * 2 ^ 5 + 11) % fldP)) ∧ Below X.heap.size X w' := fun X => by
    have h := fieldTimes_any (x ^ (a * 2 ^ 5) % fldP) (x ^ 11 % fldP) X (modP_b4 _).1 (modP_b4 _).2 (modP_b4 _).1 (modP_b4 _).2
    rw [powP_mul] at h
    exact h
  unfold uP at CI CS3 CS1 CT1 CT2 CS5 CT5
  rw [← hV] at CT5
  clear hV hx0 hx
  have hz := (zero_of_info infoU4).1
  generalize numU (x ^ (a * 2 ^ 5) % fldP) = E5 at CS5 CT5
  generalize numU (x ^ a % fldP) = EA at CI CS5
  generalize numU (x ^ 8 % fldP) = E8 at CS3 CT1
  generalize numU (x ^ 2 % fldP) = E2 at CS1 CT1
  generalize numU (x ^ 10 % fldP) = E10 at CT1 CT2
  generalize numU (x ^ 11 % fldP) = E11 at CT2 CT5
  generalize numU x = F at CI CS3 CS1 CT2 ⊢
  clear a x
  obtain ⟨A, hA⟩ : ∃ A, A = (uV (F) 4).toArray := ⟨_, rfl⟩
  obtain ⟨Z, hZ⟩ : ∃ Z, Z = (uV (fun _ => 0) 4).toArray := ⟨_, rfl⟩
  obtain ⟨m0, m1, bel0, sz⟩ := rows2 w (F) (fun _ => 0) hA hZ
  rw [← hA]
  rw [← hZ] at hz
  clear hA
  replace hZ : Hid (Z = (uV (fun _ => 0) 4).toArray) := hZ
  go_enter Tryz.func97, Tryz.ntmps97
  go_wp2_with (fail)
  obtain ⟨G1, hG1⟩ : ∃ G1, G1 = w.heap.size + 1 := ⟨_, rfl⟩
  rw [← hG1] at m1 sz ⊢
  generalize (w.alloc (.cells A 112)).alloc (.cells Z 112) = wb at m0 m1 bel0 sz ⊢
  have hne : w.heap.size ≠ G1 := by omega
  have hloR : w.heap.size ≤ G1 := by omega
  clear hG1 sz
  have hn := m0.drew
  have hr := m1.drew
  have bel := bel0.drew
  clear m0 m1 bel0
  generalize hwd : wb.drew = wd at hn hr bel
  replace hwd : Hid (wb.drew = wd) := hwd
  refine wp_region_noPanic ?_
  refine wp_region_T 99 (fun X => X.rangeAt w.heap.size 0 (uV F 4)) (fun _ => True) (by kernel_rfl) ?_
  rw [hwd.out]
  clear hwd
  obtain ⟨W, hW⟩ : ∃ W, W = wd := ⟨_, rfl⟩
  rw [← hW] at hn hr bel ⊢
  clear hW
  clear wd
  have kX : Below W.heap.size W W := Below.refl _ _
  have hLO : Hid (∃ LO, LO = W.heap.size) := ⟨_, rfl⟩
  obtain ⟨LO, hLO⟩ := hLO.out
  replace hLO : Hid (LO = W.heap.size) := hLO
  refine anyT_takeT (i := 0) rfl (by kernel_rfl) (by kernel_rfl) (by kernel_rfl) (by kernel_rfl) (fun _ _ _ h => h) (yieldsIf_load_mid (by rfl) _ _ rfl _ _ rfl (uV F 4) _ (fun _ hw => hw) Tryz.underlying112 rfl sizeU) (hn.below kX).range (fun _ => trivial) ?_
  simp only [Act.put, List.getElem_toArray, List.getElem_cons_zero, List.setIfInBounds_toArray, List.set_cons_zero, List.set_cons_succ]
  refine anyT_takeT (i := 2) rfl (by kernel_rfl) (by kernel_rfl) (by kernel_rfl) (by kernel_rfl) (fun _ _ _ h => h) (yieldsIf_load_mid (by rfl) _ _ rfl _ _ rfl (uV F 4) _ (fun _ hw => hw) Tryz.underlying112 rfl sizeU) (hn.below kX).range (fun _ => trivial) ?_
  simp only [Act.put, List.getElem_toArray, List.getElem_cons_zero, List.getElem_cons_succ, List.setIfInBounds_toArray, List.set_cons_zero, List.set_cons_succ]
  refine anyT_takeT (i := 5) rfl (by kernel_rfl) (by kernel_rfl) (by kernel_rfl) (by kernel_rfl) (fun _ _ _ h => h) (yieldsIf_load_mid (by rfl) _ _ rfl _ _ rfl (uV F 4) _ (fun _ hw => hw) Tryz.underlying112 rfl sizeU) (hn.below kX).range (fun _ => trivial) ?_
  simp only [Act.put, List.getElem_toArray, List.getElem_cons_zero, List.getElem_cons_succ, List.setIfInBounds_toArray, List.set_cons_zero, List.set_cons_succ]
  refine anyT_two (i := 1) (j := 7) (by kernel_rfl) rfl rfl (fun K hK => ?_) (fun K hK => ?_)
  · go_simp
    refine (CS3 _).mono ?_
    rintro e wY1 ⟨rfl, bY1⟩
    have kY1 := below_on kX bY1
    go_wp2_with (fail)
    refine hK.out _ _ (hn.below kY1).range (fun _ => trivial) ?_
    clear hK K
    refine anyT_two (i := 3) (j := 7) (by kernel_rfl) rfl rfl (fun K hK => ?_) (fun K hK => ?_)
    · go_simp
      refine (CS1 _).mono ?_
      rintro e wY2 ⟨rfl, bY2⟩
      have kY2 := below_on kY1 bY2
      go_wp2_with (fail)
      refine hK.out _ _ (hn.below kY2).range (fun _ => trivial) ?_
      clear hK K
      refine anyT_two (i := 4) (j := 7) (by kernel_rfl) rfl rfl (fun K hK => ?_) (fun K hK => ?_)
      · go_simp
        refine (CT1 _).mono ?_
        rintro e wY3 ⟨rfl, bY3⟩
        have kY3 := below_on kY2 bY3
        go_wp2_with (fail)
        refine hK.out _ _ (hn.below kY3).range (fun _ => trivial) ?_
        clear hK K
        refine anyT_two (i := 6) (j := 7) (by kernel_rfl) rfl rfl (fun K hK => ?_) (fun K hK => ?_)
        · go_simp
          refine (CT2 _).mono ?_
          rintro e wY4 ⟨rfl, bY4⟩
          have kY4 := below_on kY3 bY4
          go_wp2_with (fail)
          refine hK.out _ _ (hn.below kY4).range (fun _ => trivial) ?_
          clear hK K
          refine anyT_one (i := 7) (by kernel_rfl) rfl (fun K hK => ?_)
          go_simp
          have h3_5 := RowU.made wY4 112 4 LO (fun _ => 0) (by decide) (by rw [hLO.out]; exact Below.size kY4)
          rw [← hZ.out] at h3_5
          have bY5 : Below wY4.heap.size wY4 (wY4.alloc (.cells Z 112)) := (Below.refl _ _).alloc (Nat.le_refl _) _
          have kY5 := below_on kY4 bY5
          refine hK.out _ _ (hn.below kY5).range (fun _ => trivial) ?_
          clear hK K
          generalize wY4.alloc (.cells Z 112) = wY5 at h3_5 bY5 kY5 ⊢
          obtain ⟨g3, hg3⟩ : ∃ g3, g3 = wY4.heap.size := ⟨_, rfl⟩
          rw [← hg3] at h3_5 ⊢
          clear hg3
          have hp := RowU.put h3_5 (f' := E11)
          have hth2 := RowU.there2 h3_5 (f' := E11)
          have hlt3 := RowU.lt h3_5
          rw [hLO.out] at hlt3
          have hnw := hn.lt
          have hrw := hr.lt
          have hn2 := (hn.below kY5).kept hp.2 (by omega)
          have hr2 := (hr.below kY5).kept hp.2 (by omega)
          have bel1 := below_on bel kY5
          have hsk := Below.size kY5
          have bel2 := bel1.grown hp.2 (by omega) (fun k hk => by cases hk; omega)
          have h32 := hp.1
          have hg3r : G1 ≠ g3 := by omega
          have hg3w : w.heap.size ≤ g3 := by omega
          refine anyT_one (i := 8) (by kernel_rfl) rfl (fun K hK => ?_)
          refine wp_store_mid 112 _ _ rfl g3 0 (uV E11 4).toArray rfl rfl hth2 sizeU2 (all_oneCell_toArray (uV_one E11 4)) ?_
          refine hK.out _ _ hn2.range (fun _ => trivial) ?_
          clear hK K
          refine anyT_done (by kernel_rfl) ?_ _
          refine NoPanic.normal ?_
          generalize World.setCells wY5 g3 0 _ = w5 at hp hn2 hr2 bel2 h32 ⊢
          clear hp hth2 h3_5 hlt3 hnw hrw bel1 CS3 CS1 CT1 CT2 hsk hn hr bel
          have hd0 : Below w5.heap.size w5 w5.drew := (Below.refl _ _).drew
          go_wp2_with (fail)
          refine wp_region_noPanic ?_
          refine wp_region_T 99 (fun X => X.rangeAt w.heap.size 0 (uV F 4) ∧ X.rangeAt g3 0 (uV E11 4)) (fun _ => True) (by kernel_rfl) ?_
          generalize w5.drew = wZ at hd0 ⊢
          replace hn2 := hn2.below hd0
          replace hr2 := hr2.below hd0
          replace h32 := h32.below hd0
          replace bel2 := below_on bel2 hd0
          have hT := And.intro hn2.range h32.range
          refine anyT_takeT (i := 0) rfl (by kernel_rfl) (by kernel_rfl) (by kernel_rfl) (by kernel_rfl) (fun _ _ _ h => h) (yieldsIf_load_mid (by rfl) _ _ rfl _ _ rfl (uV F 4) _ (fun _ hw => hw.1) Tryz.underlying112 rfl sizeU) hT (fun _ => trivial) ?_
          simp only [Act.put, List.getElem_toArray, List.getElem_cons_zero, List.setIfInBounds_toArray]
          refine anyT_takeT (i := 3) rfl (by kernel_rfl) (by kernel_rfl) (by kernel_rfl) (by kernel_rfl) (fun _ _ _ h => h) (yieldsIf_load_mid (by rfl) _ _ rfl _ _ rfl (uV E11 4) _ (fun _ hw => hw.2) Tryz.underlying112 rfl sizeU) hT (fun _ => trivial) ?_
          simp only [Act.put, List.getElem_toArray, List.getElem_cons_zero, List.getElem_cons_succ, List.setIfInBounds_toArray, List.set_cons_zero, List.set_cons_succ]
          refine anyT_one (i := 1) (by kernel_rfl) rfl (fun K hK => ?_)
          go_simp
          refine (CI _).mono ?_
          rintro e wv0 ⟨rfl, bv0⟩
          go_wp2_with (fail)
          replace hn2 := hn2.below bv0
          replace hr2 := hr2.below bv0
          replace h32 := h32.below bv0
          replace bel2 := below_on bel2 bv0
          refine hK.out _ _ (And.intro hn2.range h32.range) (fun _ => trivial) ?_
          clear hK K bv0 CI
          refine anyT_one (i := 2) (by kernel_rfl) rfl (fun K hK => ?_)
          go_simp
          refine (CS5 _).mono ?_
          rintro e wv1 ⟨rfl, bv1⟩
          go_wp2_with (fail)
          replace hn2 := hn2.below bv1
          replace hr2 := hr2.below bv1
          replace h32 := h32.below bv1
          replace bel2 := below_on bel2 bv1
          refine hK.out _ _ (And.intro hn2.range h32.range) (fun _ => trivial) ?_
          clear hK K bv1 CS5
          refine anyT_one (i := 4) (by kernel_rfl) rfl (fun K hK => ?_)
          go_simp
          refine (CT5 _).mono ?_
          rintro e wv2 ⟨rfl, bv2⟩
          go_wp2_with (fail)
          replace hn2 := hn2.below bv2
          replace hr2 := hr2.below bv2
          replace h32 := h32.below bv2
          replace bel2 := below_on bel2 bv2
          refine hK.out _ _ (And.intro hn2.range h32.range) (fun _ => trivial) ?_
          clear hK K bv2 CT5
          have hq := hr2.put (f' := V)
          have hthq := hr2.there2 (f' := V)
          have hwq := hr2.lt
          have hT3 := And.intro (hn2.kept hq.2 hne).range (h32.kept hq.2 (Ne.symm hg3r)).range
          have hbel := bel2.grown hq.2 (by omega) (fun k hk => by cases hk; exact hloR)
          have hld := run_loadVar_mid (P := Tryz.prog) _ G1 0 112 _ _ hq.1.range Tryz.underlying112 rfl sizeU
          clear hq hn2 hr2 h32 bel2 hT
          refine anyT_one (i := 5) (by kernel_rfl) rfl (fun K hK => ?_)
          refine wp_store_mid 112 _ _ rfl G1 0 (uV V 4).toArray rfl rfl hthq sizeU2 (all_oneCell_toArray (uV_one V 4)) ?_
          refine hK.out _ _ hT3 (fun _ => trivial) ?_
          clear hK K
          refine anyT_done (by kernel_rfl) ?_ _
          refine NoPanic.normal ?_
          generalize World.setCells wv2 G1 0 _ = w8 at hbel hld ⊢
          go_wp2_with (fail)
          (try simp only [Exit.inBlock, Exit.then])
          refine bodyPost_ret (v := .agg (uV V 4).toArray) ?_ rfl ⟨rfl, hbel⟩
          simp [results, asAddr, Act.put, hld]
        · go_simp
          have h3_6 := RowU.made wY3 112 4 LO (fun _ => 0) (by decide) (by rw [hLO.out]; exact Below.size kY3)
          rw [← hZ.out] at h3_6
          have bY6 : Below wY3.heap.size wY3 (wY3.alloc (.cells Z 112)) := (Below.refl _ _).alloc (Nat.le_refl _) _
          have kY6 := below_on kY3 bY6
          refine hK.out _ _ (hn.below kY6).range (fun _ => trivial) ?_
          clear hK K
          generalize wY3.alloc (.cells Z 112) = wY6 at h3_6 bY6 kY6 ⊢
          obtain ⟨g3, hg3⟩ : ∃ g3, g3 = wY3.heap.size := ⟨_, rfl⟩
          rw [← hg3] at h3_6 ⊢
          clear hg3
          refine anyT_one (i := 6) (by kernel_rfl) rfl (fun K hK => ?_)
          go_simp
          refine (CT2 _).mono ?_
          rintro e wY7 ⟨rfl, bY7⟩
          have kY7 := below_on kY6 bY7
          have h3_7 := RowU.below h3_6 bY7
          go_wp2_with (fail)
          refine hK.out _ _ (hn.below kY7).range (fun _ => trivial) ?_
          clear hK K
          have hp := RowU.put h3_7 (f' := E11)
          have hth2 := RowU.there2 h3_7 (f' := E11)
          have hlt3 := RowU.lt h3_7
          rw [hLO.out] at hlt3
          have hnw := hn.lt
          have hrw := hr.lt
          have hn2 := (hn.below kY7).kept hp.2 (by omega)
          have hr2 := (hr.below kY7).kept hp.2 (by omega)
          have bel1 := below_on bel kY7
          have hsk := Below.size kY7
          have bel2 := bel1.grown hp.2 (by omega) (fun k hk => by cases hk; omega)
          have h32 := hp.1
          have hg3r : G1 ≠ g3 := by omega
          have hg3w : w.heap.size ≤ g3 := by omega
          refine anyT_one (i := 8) (by kernel_rfl) rfl (fun K hK => ?_)
          refine wp_store_mid 112 _ _ rfl g3 0 (uV E11 4).toArray rfl rfl hth2 sizeU2 (all_oneCell_toArray (uV_one E11 4)) ?_
          refine hK.out _ _ hn2.range (fun _ => trivial) ?_
          clear hK K
          refine anyT_done (by kernel_rfl) ?_ _
          refine NoPanic.normal ?_
          generalize World.setCells wY7 g3 0 _ = w5 at hp hn2 hr2 bel2 h32 ⊢
          clear hp hth2 h3_7 hlt3 hnw hrw bel1 CS3 CS1 CT1 CT2 hsk hn hr bel
          have hd0 : Below w5.heap.size w5 w5.drew := (Below.refl _ _).drew
          go_wp2_with (fail)
          refine wp_region_noPanic ?_
          refine wp_region_T 99 (fun X => X.rangeAt w.heap.size 0 (uV F 4) ∧ X.rangeAt g3 0 (uV E11 4)) (fun _ => True) (by kernel_rfl) ?_
          generalize w5.drew = wZ at hd0 ⊢
          replace hn2 := hn2.below hd0
          replace hr2 := hr2.below hd0
          replace h32 := h32.below hd0
          replace bel2 := below_on bel2 hd0
          have hT := And.intro hn2.range h32.range
          refine anyT_takeT (i := 0) rfl (by kernel_rfl) (by kernel_rfl) (by kernel_rfl) (by kernel_rfl) (fun _ _ _ h => h) (yieldsIf_load_mid (by rfl) _ _ rfl _ _ rfl (uV F 4) _ (fun _ hw => hw.1) Tryz.underlying112 rfl sizeU) hT (fun _ => trivial) ?_
          simp only [Act.put, List.getElem_toArray, List.getElem_cons_zero, List.setIfInBounds_toArray]
          refine anyT_takeT (i := 3) rfl (by kernel_rfl) (by kernel_rfl) (by kernel_rfl) (by kernel_rfl) (fun _ _ _ h => h) (yieldsIf_load_mid (by rfl) _ _ rfl _ _ rfl (uV E11 4) _ (fun _ hw => hw.2) Tryz.underlying112 rfl sizeU) hT (fun _ => trivial) ?_
          simp only [Act.put, List.getElem_toArray, List.getElem_cons_zero, List.getElem_cons_succ, List.setIfInBounds_toArray, List.set_cons_zero, List.set_cons_succ]
          refine anyT_one (i := 1) (by kernel_rfl) rfl (fun K hK => ?_)
          go_simp
          refine (CI _).mono ?_
          rintro e wv0 ⟨rfl, bv0⟩
          go_wp2_with (fail)
          replace hn2 := hn2.below bv0
          replace hr2 := hr2.below bv0
          replace h32 := h32.below bv0
          replace bel2 := below_on bel2 bv0
          refine hK.out _ _ (And.intro hn2.range h32.range) (fun _ => trivial) ?_
          clear hK K bv0 CI
          refine anyT_one (i := 2) (by kernel_rfl) rfl (fun K hK => ?_)
          go_simp
          refine (CS5 _).mono ?_
          rintro e wv1 ⟨rfl, bv1⟩
          go_wp2_with (fail)
          replace hn2 := hn2.below bv1
          replace hr2 := hr2.below bv1
          replace h32 := h32.below bv1
          replace bel2 := below_on bel2 bv1
          refine hK.out _ _ (And.intro hn2.range h32.range) (fun _ => trivial) ?_
          clear hK K bv1 CS5
          refine anyT_one (i := 4) (by kernel_rfl) rfl (fun K hK => ?_)
          go_simp
          refine (CT5 _).mono ?_
          rintro e wv2 ⟨rfl, bv2⟩
          go_wp2_with (fail)
          replace hn2 := hn2.below bv2
          replace hr2 := hr2.below bv2
          replace h32 := h32.below bv2
          replace bel2 := below_on bel2 bv2
          refine hK.out _ _ (And.intro hn2.range h32.range) (fun _ => trivial) ?_
          clear hK K bv2 CT5
          have hq := hr2.put (f' := V)
          have hthq := hr2.there2 (f' := V)
          have hwq := hr2.lt
          have hT3 := And.intro (hn2.kept hq.2 hne).range (h32.kept hq.2 (Ne.symm hg3r)).range
          have hbel := bel2.grown hq.2 (by omega) (fun k hk => by cases hk; exact hloR)
          have hld := run_loadVar_mid (P := Tryz.prog) _ G1 0 112 _ _ hq.1.range Tryz.underlying112 rfl sizeU
          clear hq hn2 hr2 h32 bel2 hT
          refine anyT_one (i := 5) (by kernel_rfl) rfl (fun K hK => ?_)
          refine wp_store_mid 112 _ _ rfl G1 0 (uV V 4).toArray rfl rfl hthq sizeU2 (all_oneCell_toArray (uV_one V 4)) ?_
          refine hK.out _ _ hT3 (fun _ => trivial) ?_
          clear hK K
          refine anyT_done (by kernel_rfl) ?_ _
          refine NoPanic.normal ?_
          generalize World.setCells wv2 G1 0 _ = w8 at hbel hld ⊢
          go_wp2_with (fail)
          (try simp only [Exit.inBlock, Exit.then])
          refine bodyPost_ret (v := .agg (uV V 4).toArray) ?_ rfl ⟨rfl, hbel⟩
          simp [results, asAddr, Act.put, hld]
      · go_simp
        have h3_8 := RowU.made wY2 112 4 LO (fun _ => 0) (by decide) (by rw [hLO.out]; exact Below.size kY2)
        rw [← hZ.out] at h3_8
        have bY8 : Below wY2.heap.size wY2 (wY2.alloc (.cells Z 112)) := (Below.refl _ _).alloc (Nat.le_refl _) _
        have kY8 := below_on kY2 bY8
        refine hK.out _ _ (hn.below kY8).range (fun _ => trivial) ?_
        clear hK K
        generalize wY2.alloc (.cells Z 112) = wY8 at h3_8 bY8 kY8 ⊢
        obtain ⟨g3, hg3⟩ : ∃ g3, g3 = wY2.heap.size := ⟨_, rfl⟩
        rw [← hg3] at h3_8 ⊢
        clear hg3
        refine anyT_one (i := 4) (by kernel_rfl) rfl (fun K hK => ?_)
        go_simp
        refine (CT1 _).mono ?_
        rintro e wY9 ⟨rfl, bY9⟩
        have kY9 := below_on kY8 bY9
        have h3_9 := RowU.below h3_8 bY9
        go_wp2_with (fail)
        refine hK.out _ _ (hn.below kY9).range (fun _ => trivial) ?_
        clear hK K
        refine anyT_one (i := 6) (by kernel_rfl) rfl (fun K hK => ?_)
        go_simp
        refine (CT2 _).mono ?_
        rintro e wY10 ⟨rfl, bY10⟩
        have kY10 := below_on kY9 bY10
        have h3_10 := RowU.below h3_9 bY10
        go_wp2_with (fail)
        refine hK.out _ _ (hn.below kY10).range (fun _ => trivial) ?_
        clear hK K
        have hp := RowU.put h3_10 (f' := E11)
        have hth2 := RowU.there2 h3_10 (f' := E11)
        have hlt3 := RowU.lt h3_10
        rw [hLO.out] at hlt3
        have hnw := hn.lt
        have hrw := hr.lt
        have hn2 := (hn.below kY10).kept hp.2 (by omega)
        have hr2 := (hr.below kY10).kept hp.2 (by omega)
        have bel1 := below_on bel kY10
        have hsk := Below.size kY10
        have bel2 := bel1.grown hp.2 (by omega) (fun k hk => by cases hk; omega)
        have h32 := hp.1
        have hg3r : G1 ≠ g3 := by omega
        have hg3w : w.heap.size ≤ g3 := by omega
        refine anyT_one (i := 8) (by kernel_rfl) rfl (fun K hK => ?_)
        refine wp_store_mid 112 _ _ rfl g3 0 (uV E11 4).toArray rfl rfl hth2 sizeU2 (all_oneCell_toArray (uV_one E11 4)) ?_
        refine hK.out _ _ hn2.range (fun _ => trivial) ?_
        clear hK K
        refine anyT_done (by kernel_rfl) ?_ _
        refine NoPanic.normal ?_
        generalize World.setCells wY10 g3 0 _ = w5 at hp hn2 hr2 bel2 h32 ⊢
        clear hp hth2 h3_10 hlt3 hnw hrw bel1 CS3 CS1 CT1 CT2 hsk hn hr bel
        have hd0 : Below w5.heap.size w5 w5.drew := (Below.refl _ _).drew
        go_wp2_with (fail)
        refine wp_region_noPanic ?_
        refine wp_region_T 99 (fun X => X.rangeAt w.heap.size 0 (uV F 4) ∧ X.rangeAt g3 0 (uV E11 4)) (fun _ => True) (by kernel_rfl) ?_
        generalize w5.drew = wZ at hd0 ⊢
        replace hn2 := hn2.below hd0
        replace hr2 := hr2.below hd0
        replace h32 := h32.below hd0
        replace bel2 := below_on bel2 hd0
        have hT := And.intro hn2.range h32.range
        refine anyT_takeT (i := 0) rfl (by kernel_rfl) (by kernel_rfl) (by kernel_rfl) (by kernel_rfl) (fun _ _ _ h => h) (yieldsIf_load_mid (by rfl) _ _ rfl _ _ rfl (uV F 4) _ (fun _ hw => hw.1) Tryz.underlying112 rfl sizeU) hT (fun _ => trivial) ?_
        simp only [Act.put, List.getElem_toArray, List.getElem_cons_zero, List.setIfInBounds_toArray]
        refine anyT_takeT (i := 3) rfl (by kernel_rfl) (by kernel_rfl) (by kernel_rfl) (by kernel_rfl) (fun _ _ _ h => h) (yieldsIf_load_mid (by rfl) _ _ rfl _ _ rfl (uV E11 4) _ (fun _ hw => hw.2) Tryz.underlying112 rfl sizeU) hT (fun _ => trivial) ?_
        simp only [Act.put, List.getElem_toArray, List.getElem_cons_zero, List.getElem_cons_succ, List.setIfInBounds_toArray, List.set_cons_zero, List.set_cons_succ]
        refine anyT_one (i := 1) (by kernel_rfl) rfl (fun K hK => ?_)
        go_simp
        refine (CI _).mono ?_
        rintro e wv0 ⟨rfl, bv0⟩
        go_wp2_with (fail)
        replace hn2 := hn2.below bv0
        replace hr2 := hr2.below bv0
        replace h32 := h32.below bv0
        replace bel2 := below_on bel2 bv0
        refine hK.out _ _ (And.intro hn2.range h32.range) (fun _ => trivial) ?_
        clear hK K bv0 CI
        refine anyT_one (i := 2) (by kernel_rfl) rfl (fun K hK => ?_)
        go_simp
        refine (CS5 _).mono ?_
        rintro e wv1 ⟨rfl, bv1⟩
        go_wp2_with (fail)
        replace hn2 := hn2.below bv1
        replace hr2 := hr2.below bv1
        replace h32 := h32.below bv1
        replace bel2 := below_on bel2 bv1
        refine hK.out _ _ (And.intro hn2.range h32.range) (fun _ => trivial) ?_
        clear hK K bv1 CS5
        refine anyT_one (i := 4) (by kernel_rfl) rfl (fun K hK => ?_)
        go_simp
        refine (CT5 _).mono ?_
        rintro e wv2 ⟨rfl, bv2⟩
        go_wp2_with (fail)
        replace hn2 := hn2.below bv2
        replace hr2 := hr2.below bv2
        replace h32 := h32.below bv2
        replace bel2 := below_on bel2 bv2
        refine hK.out _ _ (And.intro hn2.range h32.range) (fun _ => trivial) ?_
        clear hK K bv2 CT5
        have hq := hr2.put (f' := V)
        have hthq := hr2.there2 (f' := V)
        have hwq := hr2.lt
        have hT3 := And.intro (hn2.kept hq.2 hne).range (h32.kept hq.2 (Ne.symm hg3r)).range
        have hbel := bel2.grown hq.2 (by omega) (fun k hk => by cases hk; exact hloR)
        have hld := run_loadVar_mid (P := Tryz.prog) _ G1 0 112 _ _ hq.1.range Tryz.underlying112 rfl sizeU
        clear hq hn2 hr2 h32 bel2 hT
        refine anyT_one (i := 5) (by kernel_rfl) rfl (fun K hK => ?_)
        refine wp_store_mid 112 _ _ rfl G1 0 (uV V 4).toArray rfl rfl hthq sizeU2 (all_oneCell_toArray (uV_one V 4)) ?_
        refine hK.out _ _ hT3 (fun _ => trivial) ?_
        clear hK K
        refine anyT_done (by kernel_rfl) ?_ _
        refine NoPanic.normal ?_
        generalize World.setCells wv2 G1 0 _ = w8 at hbel hld ⊢
        go_wp2_with (fail)
        (try simp only [Exit.inBlock, Exit.then])
        refine bodyPost_ret (v := .agg (uV V 4).toArray) ?_ rfl ⟨rfl, hbel⟩
        simp [results, asAddr, Act.put, hld]
    · go_simp
      have h3_11 := RowU.made wY1 112 4 LO (fun _ => 0) (by decide) (by rw [hLO.out]; exact Below.size kY1)
      rw [← hZ.out] at h3_11
      have bY11 : Below wY1.heap.size wY1 (wY1.alloc (.cells Z 112)) := (Below.refl _ _).alloc (Nat.le_refl _) _
      have kY11 := below_on kY1 bY11
      refine hK.out _ _ (hn.below kY11).range (fun _ => trivial) ?_
      clear hK K
      generalize wY1.alloc (.cells Z 112) = wY11 at h3_11 bY11 kY11 ⊢
      obtain ⟨g3, hg3⟩ : ∃ g3, g3 = wY1.heap.size := ⟨_, rfl⟩
      rw [← hg3] at h3_11 ⊢
      clear hg3
      refine anyT_one (i := 3) (by kernel_rfl) rfl (fun K hK => ?_)
      go_simp
      refine (CS1 _).mono ?_
      rintro e wY12 ⟨rfl, bY12⟩
      have kY12 := below_on kY11 bY12
      have h3_12 := RowU.below h3_11 bY12
      go_wp2_with (fail)
      refine hK.out _ _ (hn.below kY12).range (fun _ => trivial) ?_
      clear hK K
      refine anyT_one (i := 4) (by kernel_rfl) rfl (fun K hK => ?_)
      go_simp
      refine (CT1 _).mono ?_
      rintro e wY13 ⟨rfl, bY13⟩
      have kY13 := below_on kY12 bY13
      have h3_13 := RowU.below h3_12 bY13
      go_wp2_with (fail)
      refine hK.out _ _ (hn.below kY13).range (fun _ => trivial) ?_
      clear hK K
      refine anyT_one (i := 6) (by kernel_rfl) rfl (fun K hK => ?_)
      go_simp
      refine (CT2 _).mono ?_
      rintro e wY14 ⟨rfl, bY14⟩
      have kY14 := below_on kY13 bY14
      have h3_14 := RowU.below h3_13 bY14
      go_wp2_with (fail)
      refine hK.out _ _ (hn.below kY14).range (fun _ => trivial) ?_
      clear hK K
      have hp := RowU.put h3_14 (f' := E11)
      have hth2 := RowU.there2 h3_14 (f' := E11)
      have hlt3 := RowU.lt h3_14
      rw [hLO.out] at hlt3
      have hnw := hn.lt
      have hrw := hr.lt
      have hn2 := (hn.below kY14).kept hp.2 (by omega)
      have hr2 := (hr.below kY14).kept hp.2 (by omega)
      have bel1 := below_on bel kY14
      have hsk := Below.size kY14
      have bel2 := bel1.grown hp.2 (by omega) (fun k hk => by cases hk; omega)
      have h32 := hp.1
      have hg3r : G1 ≠ g3 := by omega
      have hg3w : w.heap.size ≤ g3 := by omega
      refine anyT_one (i := 8) (by kernel_rfl) rfl (fun K hK => ?_)
      refine wp_store_mid 112 _ _ rfl g3 0 (uV E11 4).toArray rfl rfl hth2 sizeU2 (all_oneCell_toArray (uV_one E11 4)) ?_
      refine hK.out _ _ hn2.range (fun _ => trivial) ?_
      clear hK K
      refine anyT_done (by kernel_rfl) ?_ _
      refine NoPanic.normal ?_
      generalize World.setCells wY14 g3 0 _ = w5 at hp hn2 hr2 bel2 h32 ⊢
      clear hp hth2 h3_14 hlt3 hnw hrw bel1 CS3 CS1 CT1 CT2 hsk hn hr bel
      have hd0 : Below w5.heap.size w5 w5.drew := (Below.refl _ _).drew
      go_wp2_with (fail)
      refine wp_region_noPanic ?_
      refine wp_region_T 99 (fun X => X.rangeAt w.heap.size 0 (uV F 4) ∧ X.rangeAt g3 0 (uV E11 4)) (fun _ => True) (by kernel_rfl) ?_
      generalize w5.drew = wZ at hd0 ⊢
      replace hn2 := hn2.below hd0
      replace hr2 := hr2.below hd0
      replace h32 := h32.below hd0
      replace bel2 := below_on bel2 hd0
      have hT := And.intro hn2.range h32.range
      refine anyT_takeT (i := 0) rfl (by kernel_rfl) (by kernel_rfl) (by kernel_rfl) (by kernel_rfl) (fun _ _ _ h => h) (yieldsIf_load_mid (by rfl) _ _ rfl _ _ rfl (uV F 4) _ (fun _ hw => hw.1) Tryz.underlying112 rfl sizeU) hT (fun _ => trivial) ?_
      simp only [Act.put, List.getElem_toArray, List.getElem_cons_zero, List.setIfInBounds_toArray]
      refine anyT_takeT (i := 3) rfl (by kernel_rfl) (by kernel_rfl) (by kernel_rfl) (by kernel_rfl) (fun _ _ _ h => h) (yieldsIf_load_mid (by rfl) _ _ rfl _ _ rfl (uV E11 4) _ (fun _ hw => hw.2) Tryz.underlying112 rfl sizeU) hT (fun _ => trivial) ?_
      simp only [Act.put, List.getElem_toArray, List.getElem_cons_zero, List.getElem_cons_succ, List.setIfInBounds_toArray, List.set_cons_zero, List.set_cons_succ]
      refine anyT_one (i := 1) (by kernel_rfl) rfl (fun K hK => ?_)
      go_simp
      refine (CI _).mono ?_
      rintro e wv0 ⟨rfl, bv0⟩
      go_wp2_with (fail)
      replace hn2 := hn2.below bv0
      replace hr2 := hr2.below bv0
      replace h32 := h32.below bv0
      replace bel2 := below_on bel2 bv0
      refine hK.out _ _ (And.intro hn2.range h32.range) (fun _ => trivial) ?_
      clear hK K bv0 CI
      refine anyT_one (i := 2) (by kernel_rfl) rfl (fun K hK => ?_)
      go_simp
      refine (CS5 _).mono ?_
      rintro e wv1 ⟨rfl, bv1⟩
      go_wp2_with (fail)
      replace hn2 := hn2.below bv1
      replace hr2 := hr2.below bv1
      replace h32 := h32.below bv1
      replace bel2 := below_on bel2 bv1
      refine hK.out _ _ (And.intro hn2.range h32.range) (fun _ => trivial) ?_
      clear hK K bv1 CS5
      refine anyT_one (i := 4) (by kernel_rfl) rfl (fun K hK => ?_)
      go_simp
      refine (CT5 _).mono ?_
      rintro e wv2 ⟨rfl, bv2⟩
      go_wp2_with (fail)
      replace hn2 := hn2.below bv2
      replace hr2 := hr2.below bv2
      replace h32 := h32.below bv2
      replace bel2 := below_on bel2 bv2
      refine hK.out _ _ (And.intro hn2.range h32.range) (fun _ => trivial) ?_
      clear hK K bv2 CT5
      have hq := hr2.put (f' := V)
      have hthq := hr2.there2 (f' := V)
      have hwq := hr2.lt
      have hT3 := And.intro (hn2.kept hq.2 hne).range (h32.kept hq.2 (Ne.symm hg3r)).range
      have hbel := bel2.grown hq.2 (by omega) (fun k hk => by cases hk; exact hloR)
      have hld := run_loadVar_mid (P := Tryz.prog) _ G1 0 112 _ _ hq.1.range Tryz.underlying112 rfl sizeU
      clear hq hn2 hr2 h32 bel2 hT
      refine anyT_one (i := 5) (by kernel_rfl) rfl (fun K hK => ?_)
      refine wp_store_mid 112 _ _ rfl G1 0 (uV V 4).toArray rfl rfl hthq sizeU2 (all_oneCell_toArray (uV_one V 4)) ?_
      refine hK.out _ _ hT3 (fun _ => trivial) ?_
      clear hK K
      refine anyT_done (by kernel_rfl) ?_ _
      refine NoPanic.normal ?_
      generalize World.setCells wv2 G1 0 _ = w8 at hbel hld ⊢
      go_wp2_with (fail)
      (try simp only [Exit.inBlock, Exit.then])
      refine bodyPost_ret (v := .agg (uV V 4).toArray) ?_ rfl ⟨rfl, hbel⟩
      simp [results, asAddr, Act.put, hld]
  · go_simp
    have h3_15 := RowU.made W 112 4 LO (fun _ => 0) (by decide) (by rw [hLO.out]; exact Below.size kX)
    rw [← hZ.out] at h3_15
    have bY15 : Below W.heap.size W (W.alloc (.cells Z 112)) := (Below.refl _ _).alloc (Nat.le_refl _) _
    have kY15 := below_on kX bY15
    refine hK.out _ _ (hn.below kY15).range (fun _ => trivial) ?_
    clear hK K
    generalize W.alloc (.cells Z 112) = wY15 at h3_15 bY15 kY15 ⊢
    obtain ⟨g3, hg3⟩ : ∃ g3, g3 = W.heap.size := ⟨_, rfl⟩
    rw [← hg3] at h3_15 ⊢
    clear hg3
    refine anyT_one (i := 1) (by kernel_rfl) rfl (fun K hK => ?_)
    go_simp
    refine (CS3 _).mono ?_
    rintro e wY16 ⟨rfl, bY16⟩
    have kY16 := below_on kY15 bY16
    have h3_16 := RowU.below h3_15 bY16
    go_wp2_with (fail)
    refine hK.out _ _ (hn.below kY16).range (fun _ => trivial) ?_
    clear hK K
    refine anyT_one (i := 3) (by kernel_rfl) rfl (fun K hK => ?_)
    go_simp
    refine (CS1 _).mono ?_
    rintro e wY17 ⟨rfl, bY17⟩
    have kY17 := below_on kY16 bY17
    have h3_17 := RowU.below h3_16 bY17
    go_wp2_with (fail)
    refine hK.out _ _ (hn.below kY17).range (fun _ => trivial) ?_
    clear hK K
    refine anyT_one (i := 4) (by kernel_rfl) rfl (fun K hK => ?_)
    go_simp
    refine (CT1 _).mono ?_
    rintro e wY18 ⟨rfl, bY18⟩
    have kY18 := below_on kY17 bY18
    have h3_18 := RowU.below h3_17 bY18
    go_wp2_with (fail)
    refine hK.out _ _ (hn.below kY18).range (fun _ => trivial) ?_
    clear hK K
    refine anyT_one (i := 6) (by kernel_rfl) rfl (fun K hK => ?_)
    go_simp
    refine (CT2 _).mono ?_
    rintro e wY19 ⟨rfl, bY19⟩
    have kY19 := below_on kY18 bY19
    have h3_19 := RowU.below h3_18 bY19
    go_wp2_with (fail)
    refine hK.out _ _ (hn.below kY19).range (fun _ => trivial) ?_
    clear hK K
    have hp := RowU.put h3_19 (f' := E11)
    have hth2 := RowU.there2 h3_19 (f' := E11)
    have hlt3 := RowU.lt h3_19
    rw [hLO.out] at hlt3
    have hnw := hn.lt
    have hrw := hr.lt
    have hn2 := (hn.below kY19).kept hp.2 (by omega)
    have hr2 := (hr.below kY19).kept hp.2 (by omega)
    have bel1 := below_on bel kY19
    have hsk := Below.size kY19
    have bel2 := bel1.grown hp.2 (by omega) (fun k hk => by cases hk; omega)
    have h32 := hp.1
    have hg3r : G1 ≠ g3 := by omega
    have hg3w : w.heap.size ≤ g3 := by omega
    refine anyT_one (i := 8) (by kernel_rfl) rfl (fun K hK => ?_)
    refine wp_store_mid 112 _ _ rfl g3 0 (uV E11 4).toArray rfl rfl hth2 sizeU2 (all_oneCell_toArray (uV_one E11 4)) ?_
    refine hK.out _ _ hn2.range (fun _ => trivial) ?_
    clear hK K
    refine anyT_done (by kernel_rfl) ?_ _
    refine NoPanic.normal ?_
    generalize World.setCells wY19 g3 0 _ = w5 at hp hn2 hr2 bel2 h32 ⊢
    clear hp hth2 h3_19 hlt3 hnw hrw bel1 CS3 CS1 CT1 CT2 hsk hn hr bel
    have hd0 : Below w5.heap.size w5 w5.drew := (Below.refl _ _).drew
    go_wp2_with (fail)
    refine wp_region_noPanic ?_
    refine wp_region_T 99 (fun X => X.rangeAt w.heap.size 0 (uV F 4) ∧ X.rangeAt g3 0 (uV E11 4)) (fun _ => True) (by kernel_rfl) ?_
    generalize w5.drew = wZ at hd0 ⊢
    replace hn2 := hn2.below hd0
    replace hr2 := hr2.below hd0
    replace h32 := h32.below hd0
    replace bel2 := below_on bel2 hd0
    have hT := And.intro hn2.range h32.range
    refine anyT_takeT (i := 0) rfl (by kernel_rfl) (by kernel_rfl) (by kernel_rfl) (by kernel_rfl) (fun _ _ _ h => h) (yieldsIf_load_mid (by rfl) _ _ rfl _ _ rfl (uV F 4) _ (fun _ hw => hw.1) Tryz.underlying112 rfl sizeU) hT (fun _ => trivial) ?_
    simp only [Act.put, List.getElem_toArray, List.getElem_cons_zero, List.setIfInBounds_toArray]
    refine anyT_takeT (i := 3) rfl (by kernel_rfl) (by kernel_rfl) (by kernel_rfl) (by kernel_rfl) (fun _ _ _ h => h) (yieldsIf_load_mid (by rfl) _ _ rfl _ _ rfl (uV E11 4) _ (fun _ hw => hw.2) Tryz.underlying112 rfl sizeU) hT (fun _ => trivial) ?_
    simp only [Act.put, List.getElem_toArray, List.getElem_cons_zero, List.getElem_cons_succ, List.setIfInBounds_toArray, List.set_cons_zero, List.set_cons_succ]
    refine anyT_one (i := 1) (by kernel_rfl) rfl (fun K hK => ?_)
    go_simp
    refine (CI _).mono ?_
    rintro e wv0 ⟨rfl, bv0⟩
    go_wp2_with (fail)
    replace hn2 := hn2.below bv0
    replace hr2 := hr2.below bv0
    replace h32 := h32.below bv0
    replace bel2 := below_on bel2 bv0
    refine hK.out _ _ (And.intro hn2.range h32.range) (fun _ => trivial) ?_
    clear hK K bv0 CI
    refine anyT_one (i := 2) (by kernel_rfl) rfl (fun K hK => ?_)
    go_simp
    refine (CS5 _).mono ?_
    rintro e wv1 ⟨rfl, bv1⟩
    go_wp2_with (fail)
    replace hn2 := hn2.below bv1
    replace hr2 := hr2.below bv1
    replace h32 := h32.below bv1
    replace bel2 := below_on bel2 bv1
    refine hK.out _ _ (And.intro hn2.range h32.range) (fun _ => trivial) ?_
    clear hK K bv1 CS5
    refine anyT_one (i := 4) (by kernel_rfl) rfl (fun K hK => ?_)
    go_simp
    refine (CT5 _).mono ?_
    rintro e wv2 ⟨rfl, bv2⟩
    go_wp2_with (fail)
    replace hn2 := hn2.below bv2
    replace hr2 := hr2.below bv2
    replace h32 := h32.below bv2
    replace bel2 := below_on bel2 bv2
    refine hK.out _ _ (And.intro hn2.range h32.range) (fun _ => trivial) ?_
    clear hK K bv2 CT5
    have hq := hr2.put (f' := V)
    have hthq := hr2.there2 (f' := V)
    have hwq := hr2.lt
    have hT3 := And.intro (hn2.kept hq.2 hne).range (h32.kept hq.2 (Ne.symm hg3r)).range
    have hbel := bel2.grown hq.2 (by omega) (fun k hk => by cases hk; exact hloR)
    have hld := run_loadVar_mid (P := Tryz.prog) _ G1 0 112 _ _ hq.1.range Tryz.underlying112 rfl sizeU
    clear hq hn2 hr2 h32 bel2 hT
    refine anyT_one (i := 5) (by kernel_rfl) rfl (fun K hK => ?_)
    refine wp_store_mid 112 _ _ rfl G1 0 (uV V 4).toArray rfl rfl hthq sizeU2 (all_oneCell_toArray (uV_one V 4)) ?_
    refine hK.out _ _ hT3 (fun _ => trivial) ?_
    clear hK K
    refine anyT_done (by kernel_rfl) ?_ _
    refine NoPanic.normal ?_
    generalize World.setCells wv2 G1 0 _ = w8 at hbel hld ⊢
    go_wp2_with (fail)
    (try simp only [Exit.inBlock, Exit.then])
    refine bodyPost_ret (v := .agg (uV V 4).toArray) ?_ rfl ⟨rfl, hbel⟩
    simp [results, asAddr, Act.put, hld]
theorem pt_fin (ks us : List Int) : (ladE (bitB (clampL ks)) (numF us % fldP)).a % fldP * (((ladE (bitB (clampL ks)) (numF us % fldP)).c % fldP) ^ (fldP - 2).toNat % fldP) % fldP = ptZ ks us := by
  have h := ((likeP_mod (ladE (bitB (clampL ks)) (numF us % fldP)).a).mul ((likeP_mod (((ladE (bitB (clampL ks)) (numF us % fldP)).c % fldP) ^ (fldP - 2).toNat)).trans (like_pow (likeP_mod (ladE (bitB (clampL ks)) (numF us % fldP)).c) _))).mod
  rw [h]
  exact ladZ_like (likeP_mod (numF us)) _
set_option maxHeartbeats 8000000 in
theorem implPoint_yes (p q : Option Addr) (c d : Nat) (ks us : List Int) (w : World) (hl : ks.length = 32) (h : BytesIn w p 32 ks) (h' : BytesIn w q 32 us) (hb1 : ∀ x ∈ ks, 0 ≤ x ∧ x < 256) (hb2 : ∀ x ∈ us, 0 ≤ x ∧ x < 256) (hd : 32 ≤ d) :
    Calls Tryz.prog 60 #[.slice p 32 c, .slice q 32 d] w fun e w' => ∃ p' c', e = .returned (.slice p' 32 c') ∧ Own 5 w' w.heap.size w'.heap.size (.slice p' 32 c') 32 (numB (ptZ ks us)) ∧ Below w.heap.size w w' := by
  have hz := (zero_of_info infoU4).1
  have hzr := (zero_of_info infoRat).1
  have C1 := implClamp_any p 32 c ks w hl h hb1
  have hN : oneN 32 = 32 := rfl
  have hC : clampR ks 32 = clampL ks := rfl
  rw [hN, hC] at C1
  have hr : rdZ 32 us = numF us % fldP := rfl
  have C2 := fun X (hX : Below w.heap.size w X) => readField_any q 32 d us w X h' hb2 hd hX
  rw [hr] at C2
  have hdc : decide (32 = 32) = true := rfl
  rw [hdc] at C2
  have hx := inP_mod (numF us)
  obtain ⟨x, hxe⟩ : ∃ x, x = numF us % fldP := ⟨_, rfl⟩
  have C3 := fun X => ladderAt_any x X
  have C4 := fun bk ok ck X hk => down_any bk ok ck (clampL ks) x X (clampL_byte hb1) hk (by rw [hxe]; exact hx)
  have hfin := pt_fin ks us
  rw [← hxe] at C2 hfin
  obtain ⟨s, hs⟩ : ∃ s, s = ladE (bitB (clampL ks)) x := ⟨_, rfl⟩
  rw [← hs] at hfin C4
  have C5 := fun X => inverse_any (s.c % fldP) X (inP_mod _).1 (inP_mod _).2
  have C6 := fun X => ctimes (inP_mod s.a) (inP_mod ((s.c % fldP) ^ (fldP - 2).toNat)) X
  rw [hfin] at C6
  have C7 := fun X => bytesU_any (ptZ ks us) X
  unfold uP at C2 C5 C7
  obtain ⟨V, hV⟩ : ∃ V, V = numB (ptZ ks us) := ⟨_, rfl⟩
  rw [← hV] at C7 ⊢
  have e3 : uV (numU ((s.c % fldP) ^ (fldP - 2).toNat % fldP)) 4 = numV ((s.c % fldP) ^ (fldP - 2).toNat % fldP) := rfl
  have e4 : uV (numU (s.c % fldP)) 4 = numV (s.c % fldP) := rfl
  have e5 : uV (numU (ptZ ks us)) 4 = numV (ptZ ks us) := rfl
  have e6 : uV (numU x) 4 = numV x := rfl
  have e7 : ratC (modL s) = numV (s.a % fldP) ++ numV (s.c % fldP) := rfl
  rw [e3, e4] at C5
  rw [e5] at C7
  rw [e6] at C2
  rw [e7] at C4
  have qx := numV_q4 x
  have qA := numV_q4 (s.a % fldP)
  have qC := numV_q4 (s.c % fldP)
  clear hV e3 e4 e5 e6 e7 hfin hs hxe hx hr hdc
  generalize numV (ptZ ks us) = LP at C6 C7
  generalize numV ((s.c % fldP) ^ (fldP - 2).toNat % fldP) = LI at C5 C6
  generalize numV (s.a % fldP) = LA at C4 C6 qA
  generalize numV (s.c % fldP) = LC at C4 C5 qC
  generalize ladC x ⟨1, x, 0, 1⟩ = LL at C3 C4
  generalize numV x = LX at C2 C3 qx
  generalize clampL ks = kk at C1 C4
  clear h h' hN hC hb1 hb2 hl hd s x
  obtain ⟨Z, hZ⟩ : ∃ Z, Z = (uV (fun _ => 0) 4).toArray := ⟨_, rfl⟩
  rw [← hZ] at hz
  replace hZ : Hid (Z = (uV (fun _ => 0) 4).toArray) := hZ
  obtain ⟨Z8, hZ8⟩ : ∃ Z, Z = (uV (fun _ => 0) 8).toArray := ⟨_, rfl⟩
  rw [← hZ8] at hzr
  replace hZ8 : Hid (Z8 = (uV (fun _ => 0) 8).toArray) := hZ8
  obtain ⟨LR, hLR⟩ : ∃ L, L = LA ++ LC := ⟨_, rfl⟩
  simp only [← hLR] at C4
  have y1 : LR.length = 8 := by rw [hLR]; exact rat_length qA qC
  have y2 : ∀ v ∈ LR, v.oneCell' = true := by rw [hLR]; exact rat_one qA qC
  replace hLR : Hid (LR = LA ++ LC) := hLR
  have y3 := szRat2 y1
  have zx := qx.sz
  have zx2 := qx.sz2
  have ox := qx.one
  go_enter Tryz.func60, Tryz.ntmps60
  go_wp2_with (fail)
  refine C1.mono ?_
  rintro e w1 ⟨p1, c1, rfl, o1, b1⟩
  have C2' := C2 w1 b1
  clear C2
  go_wp2_with (fail)
  refine C2'.mono ?_
  rintro e w2 ⟨rfl, b2⟩
  replace o1 := o1.on b2
  have bel := below_on b1 b2
  clear b1 b2 C2' C1
  have m1 := RowL.made (L := uV (fun _ => 0) 4) w2 112 4 w.heap.size (uV_length _ _) (by decide) bel.size
  rw [← hZ.out] at m1
  have b2 : Below w2.heap.size w2 (w2.alloc (.cells Z 112)) := (Below.refl _ _).alloc (Nat.le_refl _) _
  have th := m1.there (o := 0) (m := LX.toArray.size) (by simp [qx.len])
  have pp := m1.putAll (B := LX) (by rw [qx.len, uV_length])
  have bX := b2.grown pp.2 b2.size (fun k hk => by cases hk; exact Nat.le_refl _)
  have rx := pp.1
  have q0 := rx.all
  replace o1 := o1.on bX
  replace bel := below_on bel bX
  clear m1 b2 pp bX rx
  go_wp2_with (first | (with_reducible refine wpList_store_mid rfl 112 _ _ rfl w2.heap.size 0 LX.toArray rfl rfl th zx2 (all_oneCell_toArray ox) ?_; (try dsimp only)) | (with_reducible refine wpList_load_mid rfl 112 _ rfl w2.heap.size 0 rfl LX _ q0 Tryz.underlying112 rfl zx ?_))
  generalize (w2.alloc (.cells Z 112)).setCells w2.heap.size 0 LX = w3 at o1 bel ⊢
  clear th q0
  refine (C3 _).mono ?_
  rintro e w4 ⟨rfl, b4⟩
  replace o1 := o1.on b4
  replace bel := below_on bel b4
  obtain ⟨bk, ok, rfl, hk⟩ := o1.bytes (by decide)
  have C4' := C4 bk ok c1 w4 hk
  clear C4 hk b4 C3 o1
  go_wp2_with (fail)
  refine C4'.mono ?_
  rintro e w5 ⟨rfl, b5⟩
  replace bel := below_on bel b5
  clear C4' b5
  have m1 := RowL.made (L := uV (fun _ => 0) 8) w5 116 8 w.heap.size (uV_length _ _) (by decide) bel.size
  rw [← hZ8.out] at m1
  have b2 : Below w5.heap.size w5 (w5.alloc (.cells Z8 116)) := (Below.refl _ _).alloc (Nat.le_refl _) _
  have th := m1.there (o := 0) (m := LR.toArray.size) (by simp [y1])
  have pp := m1.putAll (B := LR) (by rw [y1, uV_length])
  have bX := b2.grown pp.2 b2.size (fun k hk => by cases hk; exact Nat.le_refl _)
  have rx := pp.1
  replace bel := below_on bel bX
  clear m1 b2 pp bX
  go_wp2_with (with_reducible refine wpList_store_mid rfl 116 _ _ rfl w5.heap.size 0 LR.toArray rfl rfl th y3 (all_oneCell_toArray y2) ?_; (try dsimp only))
  generalize (w5.alloc (.cells Z8 116)).setCells w5.heap.size 0 LR = w6 at rx bel ⊢
  generalize w5.heap.size = G8 at rx ⊢
  rw [hLR.out] at rx
  clear th hLR y1 y2 y3
  have hd0 : Below w6.heap.size w6 w6.drew := (Below.refl _ _).drew
  refine wp_region_noPanic ?_
  refine wp_region_T 99 (fun X => X.rangeAt G8 0 LA ∧ X.rangeAt G8 4 LC) (fun _ => True) (by kernel_rfl) ?_
  generalize w6.drew = w7 at hd0 ⊢
  replace rx := rx.below hd0
  replace bel := below_on bel hd0
  clear hd0
  have rgA : ∀ X, RowL 116 8 X w.heap.size G8 (LA ++ LC) → X.rangeAt G8 0 LA ∧ X.rangeAt G8 4 LC := fun X hX => by
    have h1 : RowL 116 8 X w.heap.size G8 ([] ++ (LA ++ LC)) := hX
    have h2 : RowL 116 8 X w.heap.size G8 (LA ++ (LC ++ [])) := by rw [List.append_nil]; exact hX
    exact ⟨h1.mid rfl, h2.mid qA.len⟩
  have hT := rgA _ rx
  refine anyT_takeT (i := 0) (v := .pointer (some ⟨G8, 0, none⟩)) rfl (by kernel_rfl) (by kernel_rfl) (by kernel_rfl) (by kernel_rfl) (fun _ _ _ h => h) (Or.inl ⟨by rfl, fun X hSw => by ((try dsimp only at hSw); go_simp)⟩) hT (fun _ => trivial) ?_
  simp only [Act.put, List.getElem_toArray, List.getElem_cons_zero, List.setIfInBounds_toArray, List.set_cons_zero, List.set_cons_succ]
  refine anyT_takeT (i := 1) rfl (by kernel_rfl) (by kernel_rfl) (by kernel_rfl) (by kernel_rfl) (fun _ _ _ h => h) (yieldsIf_load_mid (by rfl) _ _ rfl _ _ rfl LA _ (fun _ hw => hw.1) Tryz.underlying112 rfl qA.sz) hT (fun _ => trivial) ?_
  simp only [Act.put, List.getElem_toArray, List.getElem_cons_zero, List.getElem_cons_succ, List.setIfInBounds_toArray, List.set_cons_zero, List.set_cons_succ]
  refine anyT_takeT (i := 2) (v := .pointer (some ⟨G8, 4, none⟩)) rfl (by kernel_rfl) (by kernel_rfl) (by kernel_rfl) (by kernel_rfl) (fun _ _ _ h => h) (Or.inl ⟨by rfl, fun X hSw => by ((try dsimp only at hSw); go_simp)⟩) hT (fun _ => trivial) ?_
  simp only [Act.put, List.getElem_toArray, List.getElem_cons_zero, List.getElem_cons_succ, List.setIfInBounds_toArray, List.set_cons_zero, List.set_cons_succ]
  refine anyT_takeT (i := 3) rfl (by kernel_rfl) (by kernel_rfl) (by kernel_rfl) (by kernel_rfl) (fun _ _ _ h => h) (yieldsIf_load_mid (by rfl) _ _ rfl _ _ rfl LC _ (fun _ hw => hw.2) Tryz.underlying112 rfl qC.sz) hT (fun _ => trivial) ?_
  simp only [Act.put, List.getElem_toArray, List.getElem_cons_zero, List.getElem_cons_succ, List.setIfInBounds_toArray, List.set_cons_zero, List.set_cons_succ]
  refine anyT_one (i := 4) (by kernel_rfl) rfl (fun K hK => ?_)
  go_simp
  refine (C5 _).mono ?_
  rintro e wc4 ⟨rfl, bc⟩
  replace rx := rx.below bc
  replace bel := below_on bel bc
  clear hT
  have hT := rgA _ rx
  go_wp2_with (fail)
  refine hK.out _ _ hT (fun _ => trivial) ?_
  clear hK K bc
  refine anyT_one (i := 5) (by kernel_rfl) rfl (fun K hK => ?_)
  go_simp
  refine (C6 _).mono ?_
  rintro e wc5 ⟨rfl, bc⟩
  replace rx := rx.below bc
  replace bel := below_on bel bc
  clear hT
  have hT := rgA _ rx
  go_wp2_with (fail)
  refine hK.out _ _ hT (fun _ => trivial) ?_
  clear hK K bc
  refine anyT_one (i := 6) (by kernel_rfl) rfl (fun K hK => ?_)
  go_simp
  refine (C7 _).mono ?_
  rintro e w9 ⟨p9, rfl, o9, bc⟩
  have hsz := bel.size
  replace rx := rx.below bc
  replace bel := below_on bel bc
  clear hT
  have hT := rgA _ rx
  go_wp2_with (fail)
  refine hK.out _ _ hT (fun _ => trivial) ?_
  clear hK K bc
  refine anyT_takeT (i := 7) (v := .slice p9 32 32) rfl (by kernel_rfl) (by kernel_rfl) (by kernel_rfl) (by kernel_rfl) (fun _ _ _ h => h) (Or.inl ⟨by rfl, fun X hSw => by ((try dsimp only at hSw); go_simp)⟩) hT (fun _ => trivial) ?_
  simp only [Act.put, List.getElem_toArray, List.getElem_cons_zero, List.getElem_cons_succ, List.setIfInBounds_toArray, List.set_cons_zero, List.set_cons_succ]
  refine anyT_done (by kernel_rfl) ?_ _
  refine NoPanic.normal ?_
  go_wp2_with (fail)
  go_ret
  exact ⟨_, _, rfl, ⟨owns_mono o9.1 hsz, o9.2⟩, bel⟩
set_option maxHeartbeats 8000000 in
theorem implPoint_no (p q : Option Addr) (n m c d : Nat) (ks us : List Int) (w : World) (hl : ks.length = n) (h : BytesIn w p n ks) (h' : BytesIn w q m us) (hb1 : ∀ x ∈ ks, 0 ≤ x ∧ x < 256) (hb2 : ∀ x ∈ us, 0 ≤ x ∧ x < 256) (hd : m ≤ d) (hok : ¬ two32 n m) :
    Calls Tryz.prog 60 #[.slice p n c, .slice q m d] w fun e w' => e = .returned (.slice none 0 0) ∧ Below w.heap.size w w' := by
  have hz := (zero_of_info infoU4).1
  have C1 := implClamp_any p n c ks w hl h hb1
  have C2 := fun X (hX : Below w.heap.size w X) => readField_any q m d us w X h' hb2 hd hX
  unfold uP at C2
  have qx := q4 (rdZ m us)
  generalize uV (numU (rdZ m us)) 4 = LX at C2 qx
  generalize clampR ks n = kk at C1
  have hN : Hid (n = 32 ∧ oneN n = 32 ∨ ¬ n = 32 ∧ oneN n = 0) := by
    unfold oneN Hid
    by_cases e : n = 32
    · exact .inl ⟨e, if_pos e⟩
    · exact .inr ⟨e, if_neg e⟩
  generalize oneN n = N at C1 hN
  have hm : Hid (m = 32 ∧ decide (m = 32) = true ∨ ¬ m = 32 ∧ decide (m = 32) = false) := by
    unfold Hid
    by_cases e : m = 32
    · exact .inl ⟨e, decide_eq_true e⟩
    · exact .inr ⟨e, decide_eq_false e⟩
  obtain ⟨t, ht⟩ : ∃ t, t = decide (m = 32) := ⟨_, rfl⟩
  rw [← ht] at C2 hm
  replace hok : Hid (¬ (n = 32 ∧ m = 32)) := hok
  clear h h' hb1 hb2 hl hd ht
  obtain ⟨Z, hZ⟩ : ∃ Z, Z = (uV (fun _ => 0) 4).toArray := ⟨_, rfl⟩
  rw [← hZ] at hz
  replace hZ : Hid (Z = (uV (fun _ => 0) 4).toArray) := hZ
  have zx2 := qx.sz2
  have ox := qx.one
  go_enter Tryz.func60, Tryz.ntmps60
  go_wp2_with (fail)
  refine C1.mono ?_
  rintro e w1 ⟨p1, c1, rfl, o1, b1⟩
  have C2' := C2 w1 b1
  clear C2 o1
  go_wp2_with (fail)
  refine C2'.mono ?_
  rintro e w2 ⟨rfl, b2⟩
  have bel := below_on b1 b2
  clear b1 b2 C2' C1
  have m1 := RowL.made (L := uV (fun _ => 0) 4) w2 112 4 w.heap.size (uV_length _ _) (by decide) bel.size
  rw [← hZ.out] at m1
  have b2 : Below w2.heap.size w2 (w2.alloc (.cells Z 112)) := (Below.refl _ _).alloc (Nat.le_refl _) _
  have th := m1.there (o := 0) (m := LX.toArray.size) (by simp [qx.len])
  have pp := m1.putAll (B := LX) (by rw [qx.len, uV_length])
  have bX := b2.grown pp.2 b2.size (fun k hk => by cases hk; exact Nat.le_refl _)
  replace bel := below_on bel bX
  clear m1 b2 pp bX
  rcases hN.out with ⟨e1, e2⟩ | ⟨e1, e2⟩
  · rcases hm.out with ⟨e3, e4⟩ | ⟨e3, e4⟩
    · exact absurd ⟨e1, e3⟩ hok.out
    · subst e2 e4
      clear hN hm hok e1 e3
      go_wp2_with (with_reducible refine wpList_store_mid rfl 112 _ _ rfl w2.heap.size 0 LX.toArray rfl rfl th zx2 (all_oneCell_toArray ox) ?_; (try dsimp only))
      go_ret
      exact ⟨rfl, bel⟩
  · subst e2
    clear hN hm hok e1
    go_wp2_with (with_reducible refine wpList_store_mid rfl 112 _ _ rfl w2.heap.size 0 LX.toArray rfl rfl th zx2 (all_oneCell_toArray ox) ?_; (try dsimp only))
    go_ret
    exact ⟨rfl, bel⟩
theorem implPoint_any (p q : Option Addr) (n m c d : Nat) (ks us : List Int) (w : World) (hl : ks.length = n) (h : BytesIn w p n ks) (h' : BytesIn w q m us) (hb1 : ∀ x ∈ ks, 0 ≤ x ∧ x < 256) (hb2 : ∀ x ∈ us, 0 ≤ x ∧ x < 256) (hd : m ≤ d) :
    Calls Tryz.prog 60 #[.slice p n c, .slice q m d] w fun e w' => ∃ p' c', e = .returned (.slice p' (fldN n m) c') ∧ Own 5 w' w.heap.size w'.heap.size (.slice p' (fldN n m) c') (fldN n m) (fldL (ptZ ks us) n m) ∧ Below w.heap.size w w' := by
  unfold fldN fldL
  by_cases hok : two32 n m
  · rw [if_pos hok, if_pos hok, ptZ_mod]
    obtain ⟨rfl, rfl⟩ := hok
    exact implPoint_yes p q c d ks us w hl h h' hb1 hb2 hd
  · rw [if_neg hok, if_neg hok]
    refine (implPoint_no p q n m c d ks us w hl h h' hb1 hb2 hd hok).mono ?_
    rintro e w' ⟨rfl, hb⟩
    exact ⟨_, _, rfl, ⟨⟨rfl, .inl ⟨rfl, rfl⟩⟩, fun k hk => by cases hk⟩, hb⟩
set_option maxHeartbeats 4000000 in
theorem implPublic_any (p : Option Addr) (n c : Nat) (ks : List Int) (w : World) (hl : ks.length = n) (h : BytesIn w p n ks) (hb1 : ∀ x ∈ ks, 0 ≤ x ∧ x < 256) :
    Calls Tryz.prog 18 #[.slice p n c] w fun e w' => ∃ p' c', e = .returned (.slice p' (oneN n) c') ∧ Own 5 w' w.heap.size w'.heap.size (.slice p' (oneN n) c') (oneN n) (oneL (ptZ ks baseL) n) ∧ Below w.heap.size w w' := by
  have C1 := implFieldNum_any 9 w (by decide)
  have hN : numB (nnZ 9) = baseL := rfl
  rw [hN] at C1
  have C2 := fun q d X (hX : Below w.heap.size w X) (hq : BytesIn X q 32 baseL) (hd : 32 ≤ d) => implPoint_any p q n 32 c d ks baseL X hl (in_below h hX) hq hb1 baseL_byte hd
  rw [fldN_one, fldL_one] at C2
  generalize oneL (ptZ ks baseL) n = V at C2
  generalize oneN n = N at C2
  generalize baseL = B at C1 C2
  clear hN h hb1 hl
  go_enter Tryz.func18, Tryz.ntmps18
  go_wp2_with (fail)
  refine C1.mono ?_
  rintro e w1 ⟨p1, c1, rfl, o1, b1⟩
  have C3 := C2 p1 c1 w1 b1 o1.bytes (own_cap o1)
  clear C2
  go_wp2_with (fail)
  refine C3.mono ?_
  rintro e w2 ⟨p2, c2, rfl, o2, b2⟩
  go_wp2_with (fail)
  go_ret
  exact ⟨_, _, rfl, ⟨owns_mono o2.1 b1.size, o2.2⟩, below_on b1 b2⟩
theorem implSame_any (p q : Option Addr) (n m c d : Nat) (xs ys : List Int) (w : World) (hx : xs.length = n) (hy : ys.length = m) (h : BytesIn w p n xs) (h' : BytesIn w q m ys) :
    Calls Tryz.prog 14 #[.slice p n c, .slice q m d] w fun e w' => e = .returned (.bool ((strOfNums xs).toList == (strOfNums ys).toList)) ∧ Below w.heap.size w w' := by
  have g := text_of (P := Tryz.prog) h hx c 22 5 9 Tryz.underlying22 Tryz.underlying5 Tryz.underlying9
  have g' := text_of (P := Tryz.prog) h' hy d 22 5 9 Tryz.underlying22 Tryz.underlying5 Tryz.underlying9
  go_enter Tryz.func14, Tryz.ntmps14
  go_wp2
  go_ret
  exact ⟨rfl, Below.refl _ _⟩
end Go.Proofs.YtnpffnhiefgglaaGreatDoor
