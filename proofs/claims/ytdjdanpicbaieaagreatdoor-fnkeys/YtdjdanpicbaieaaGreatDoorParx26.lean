/-
  What the program's inverse answers. Conditions: bytes; a capacity that is not less than the length.
-/
import Derived.Test.YtdjdanpicbaieaaGreatDoorParx22
import Derived.Test.YtdjdanpicbaieaaGreatDoorParx21
import Derived.Test.YtdjdanpicbaieaaGreatDoorParx24
namespace Go.Proofs.YtdjdanpicbaieaaGreatDoor
open Go.RowKit

theorem inv_exp (a : Nat) (ha : a = 2 ^ 250 - 1) : a * 2 ^ 5 + 11 = (fldP - 2).toNat := by
  subst ha
  decide

set_option maxRecDepth 100000 in
set_option maxHeartbeats 8000000 in
theorem inverse_any (x : Int) (w : World) (hx0 : 0 ≤ x) (hx : x < fldP) :
    Calls Tryz.prog 65 #[uP x] w fun e w' => e = .returned (uP (x ^ (fldP - 2).toNat % fldP)) ∧ Below w.heap.size w w' := by
  obtain ⟨a, ha⟩ : ∃ a, a = 2 ^ 250 - 1 := ⟨_, rfl⟩
  have CI : ∀ X, Calls Tryz.prog 102 #[uP x, .int .i64 250] X fun e w' => e = .returned (uP (x ^ a % fldP)) ∧ Below X.heap.size X w' := fun X => by
    have h := ones_any x hx0 hx 250 (by decide) (by decide) X
    rw [← ha] at h
    exact h
  have he := inv_exp a ha
  obtain ⟨V, hV⟩ : ∃ V, V = numU (x ^ (fldP - 2).toNat % fldP) := ⟨_, rfl⟩
  unfold uP
  rw [← hV]
  rw [← he] at hV
  clear he ha
  have CS3 : ∀ X, Calls Tryz.prog 101 #[uP x, .int .i64 3] X fun e w' => e = .returned (uP (x ^ 8 % fldP)) ∧ Below X.heap.size X w' := fun X => squared_any x 3 X hx0 hx (by decide)
  have CS1 : ∀ X, Calls Tryz.prog 101 #[uP x, .int .i64 1] X fun e w' => e = .returned (uP (x ^ 2 % fldP)) ∧ Below X.heap.size X w' := fun X => squared_any x 1 X hx0 hx (by decide)
  have CT1 : ∀ X, Calls Tryz.prog 64 #[uP (x ^ 8 % fldP), uP (x ^ 2 % fldP)] X fun e w' => e = .returned (uP (x ^ 10 % fldP)) ∧ Below X.heap.size X w' := fun X => by
    have h := times_any (x ^ 8 % fldP) (x ^ 2 % fldP) X (modP_b4 _).1 (modP_b4 _).2 (modP_b4 _).1 (modP_b4 _).2
    rw [powP_mul] at h
    exact h
  have CT2 : ∀ X, Calls Tryz.prog 64 #[uP (x ^ 10 % fldP), uP x] X fun e w' => e = .returned (uP (x ^ 11 % fldP)) ∧ Below X.heap.size X w' := fun X => by
    have h := times_any (x ^ 10 % fldP) x X (modP_b4 _).1 (modP_b4 _).2 hx0 (by have := b4U; omega)
    rw [left_mul, ← Int.pow_succ] at h
    exact h
  have CS5 : ∀ X, Calls Tryz.prog 101 #[uP (x ^ a % fldP), .int .i64 5] X fun e w' => e = .returned (uP (x ^ (a * 2 ^ 5) % fldP)) ∧ Below X.heap.size X w' := fun X => by
    have h := squared_any (x ^ a % fldP) 5 X (modP_range _).1 (modP_range _).2 (by decide)
    rw [powP_pow] at h
    exact h
  have CT5 : ∀ X, Calls Tryz.prog 64 #[uP (x ^ (a * 2 ^ 5) % fldP), uP (x ^ 11 % fldP)] X fun e w' => e = .returned (uP (x ^ (a * 2 ^ 5 + 11) % fldP)) ∧ Below X.heap.size X w' := fun X => by
    have h := times_any (x ^ (a * 2 ^ 5) % fldP) (x ^ 11 % fldP) X (modP_b4 _).1 (modP_b4 _).2 (modP_b4 _).1 (modP_b4 _).2
    rw [powP_mul] at h
    exact h
  unfold uP at CI CS3 CS1 CT1 CT2 CS5 CT5
  rw [← hV] at CT5
  clear hV hx0 hx
  have hz := (zero_of_info infoU4).1
  generalize numU (x ^ (a * 2 ^ 5) % fldP) = E5 at CS5 CT5
  generalize numU (x ^ a % fldP) = EA at CI CS5
  generalize numU (x ^ 8 % fldP) = E8 at CS3 CT1
  generalize numU (x ^ 2 % fldP) = E2 at CS1 CT1
  generalize numU (x ^ 10 % fldP) = E10 at CT1 CT2
  generalize numU (x ^ 11 % fldP) = E11 at CT2 CT5
  generalize numU x = F at CI CS3 CS1 CT2 ⊢
  clear a x
  obtain ⟨A, hA⟩ : ∃ A, A = (uV (F) 4).toArray := ⟨_, rfl⟩
  obtain ⟨Z, hZ⟩ : ∃ Z, Z = (uV (fun _ => 0) 4).toArray := ⟨_, rfl⟩
  obtain ⟨m0, m1, bel0, sz⟩ := rows2 w (F) (fun _ => 0) hA hZ
  rw [← hA]
  rw [← hZ] at hz
  clear hA
  replace hZ : Hid (Z = (uV (fun _ => 0) 4).toArray) := hZ
  go_enter Tryz.func65, Tryz.ntmps65
  go_wp2_with (fail)
  obtain ⟨G1, hG1⟩ : ∃ G1, G1 = w.heap.size + 1 := ⟨_, rfl⟩
  rw [← hG1] at m1 sz ⊢
  generalize (w.alloc (.cells A 84)).alloc (.cells Z 84) = wb at m0 m1 bel0 sz ⊢
  have hne : w.heap.size ≠ G1 := by omega
  have hloR : w.heap.size ≤ G1 := by omega
  clear hG1 sz
  have hn := m0.drew
  have hr := m1.drew
  have bel := bel0.drew
  clear m0 m1 bel0
  generalize hwd : wb.drew = wd at hn hr bel
  replace hwd : Hid (wb.drew = wd) := hwd
  refine wp_region_noPanic ?_
  refine wp_region_T 99 (fun X => X.rangeAt w.heap.size 0 (uV F 4)) (fun _ => True) (by kernel_rfl) ?_
  rw [hwd.out]
  clear hwd
  obtain ⟨W, hW⟩ : ∃ W, W = wd := ⟨_, rfl⟩
  rw [← hW] at hn hr bel ⊢
  clear hW
  clear wd
  have kX : Below W.heap.size W W := Below.refl _ _
  have hLO : Hid (∃ LO, LO = W.heap.size) := ⟨_, rfl⟩
  obtain ⟨LO, hLO⟩ := hLO.out
  replace hLO : Hid (LO = W.heap.size) := hLO
  refine anyT_takeT (i := 0) rfl (by kernel_rfl) (by kernel_rfl) (by kernel_rfl) (by kernel_rfl) (fun _ _ _ h => h) (yieldsIf_load_mid (by rfl) _ _ rfl _ _ rfl (uV F 4) _ (fun _ hw => hw) Tryz.underlying84 rfl sizeU) (hn.below kX).range (fun _ => trivial) ?_
  simp only [Act.put, List.getElem_toArray, List.getElem_cons_zero, List.setIfInBounds_toArray, List.set_cons_zero, List.set_cons_succ]
  refine anyT_takeT (i := 2) rfl (by kernel_rfl) (by kernel_rfl) (by kernel_rfl) (by kernel_rfl) (fun _ _ _ h => h) (yieldsIf_load_mid (by rfl) _ _ rfl _ _ rfl (uV F 4) _ (fun _ hw => hw) Tryz.underlying84 rfl sizeU) (hn.below kX).range (fun _ => trivial) ?_
  simp only [Act.put, List.getElem_toArray, List.getElem_cons_zero, List.getElem_cons_succ, List.setIfInBounds_toArray, List.set_cons_zero, List.set_cons_succ]
  refine anyT_takeT (i := 5) rfl (by kernel_rfl) (by kernel_rfl) (by kernel_rfl) (by kernel_rfl) (fun _ _ _ h => h) (yieldsIf_load_mid (by rfl) _ _ rfl _ _ rfl (uV F 4) _ (fun _ hw => hw) Tryz.underlying84 rfl sizeU) (hn.below kX).range (fun _ => trivial) ?_
  simp only [Act.put, List.getElem_toArray, List.getElem_cons_zero, List.getElem_cons_succ, List.setIfInBounds_toArray, List.set_cons_zero, List.set_cons_succ]
  refine anyT_two (i := 1) (j := 7) (by kernel_rfl) rfl rfl (fun K hK => ?_) (fun K hK => ?_)
  · go_simp
    refine (CS3 _).mono ?_
    rintro e wY1 ⟨rfl, bY1⟩
    have kY1 := below_on kX bY1
    go_wp2_with (fail)
    refine hK.out _ _ (hn.below kY1).range (fun _ => trivial) ?_
    clear hK K
    refine anyT_two (i := 3) (j := 7) (by kernel_rfl) rfl rfl (fun K hK => ?_) (fun K hK => ?_)
    · go_simp
      refine (CS1 _).mono ?_
      rintro e wY2 ⟨rfl, bY2⟩
      have kY2 := below_on kY1 bY2
      go_wp2_with (fail)
      refine hK.out _ _ (hn.below kY2).range (fun _ => trivial) ?_
      clear hK K
      refine anyT_two (i := 4) (j := 7) (by kernel_rfl) rfl rfl (fun K hK => ?_) (fun K hK => ?_)
      · go_simp
        refine (CT1 _).mono ?_
        rintro e wY3 ⟨rfl, bY3⟩
        have kY3 := below_on kY2 bY3
        go_wp2_with (fail)
        refine hK.out _ _ (hn.below kY3).range (fun _ => trivial) ?_
        clear hK K
        refine anyT_two (i := 6) (j := 7) (by kernel_rfl) rfl rfl (fun K hK => ?_) (fun K hK => ?_)
        · go_simp
          refine (CT2 _).mono ?_
          rintro e wY4 ⟨rfl, bY4⟩
          have kY4 := below_on kY3 bY4
          go_wp2_with (fail)
          refine hK.out _ _ (hn.below kY4).range (fun _ => trivial) ?_
          clear hK K
          refine anyT_one (i := 7) (by kernel_rfl) rfl (fun K hK => ?_)
          go_simp
          have h3_5 := RowU.made wY4 84 4 LO (fun _ => 0) (by decide) (by rw [hLO.out]; exact Below.size kY4)
          rw [← hZ.out] at h3_5
          have bY5 : Below wY4.heap.size wY4 (wY4.alloc (.cells Z 84)) := (Below.refl _ _).alloc (Nat.le_refl _) _
          have kY5 := below_on kY4 bY5
          refine hK.out _ _ (hn.below kY5).range (fun _ => trivial) ?_
          clear hK K
          generalize wY4.alloc (.cells Z 84) = wY5 at h3_5 bY5 kY5 ⊢
          obtain ⟨g3, hg3⟩ : ∃ g3, g3 = wY4.heap.size := ⟨_, rfl⟩
          rw [← hg3] at h3_5 ⊢
          clear hg3
          have hp := RowU.put h3_5 (f' := E11)
          have hth2 := RowU.there2 h3_5 (f' := E11)
          have hlt3 := RowU.lt h3_5
          rw [hLO.out] at hlt3
          have hnw := hn.lt
          have hrw := hr.lt
          have hn2 := (hn.below kY5).kept hp.2 (by omega)
          have hr2 := (hr.below kY5).kept hp.2 (by omega)
          have bel1 := below_on bel kY5
          have hsk := Below.size kY5
          have bel2 := bel1.grown hp.2 (by omega) (fun k hk => by cases hk; omega)
          have h32 := hp.1
          have hg3r : G1 ≠ g3 := by omega
          have hg3w : w.heap.size ≤ g3 := by omega
          refine anyT_one (i := 8) (by kernel_rfl) rfl (fun K hK => ?_)
          refine wp_store_mid 84 _ _ rfl g3 0 (uV E11 4).toArray rfl rfl hth2 sizeU2 (all_oneCell_toArray (uV_one E11 4)) ?_
          refine hK.out _ _ hn2.range (fun _ => trivial) ?_
          clear hK K
          refine anyT_done (by kernel_rfl) ?_ _
          refine NoPanic.normal ?_
          generalize World.setCells wY5 g3 0 _ = w5 at hp hn2 hr2 bel2 h32 ⊢
          clear hp hth2 h3_5 hlt3 hnw hrw bel1 CS3 CS1 CT1 CT2 hsk hn hr bel
          have hd0 : Below w5.heap.size w5 w5.drew := (Below.refl _ _).drew
          go_wp2_with (fail)
          refine wp_region_noPanic ?_
          refine wp_region_T 99 (fun X => X.rangeAt w.heap.size 0 (uV F 4) ∧ X.rangeAt g3 0 (uV E11 4)) (fun _ => True) (by kernel_rfl) ?_
          generalize w5.drew = wZ at hd0 ⊢
          replace hn2 := hn2.below hd0
          replace hr2 := hr2.below hd0
          replace h32 := h32.below hd0
          replace bel2 := below_on bel2 hd0
          have hT := And.intro hn2.range h32.range
          refine anyT_takeT (i := 0) rfl (by kernel_rfl) (by kernel_rfl) (by kernel_rfl) (by kernel_rfl) (fun _ _ _ h => h) (yieldsIf_load_mid (by rfl) _ _ rfl _ _ rfl (uV F 4) _ (fun _ hw => hw.1) Tryz.underlying84 rfl sizeU) hT (fun _ => trivial) ?_
          simp only [Act.put, List.getElem_toArray, List.getElem_cons_zero, List.setIfInBounds_toArray]
          refine anyT_takeT (i := 3) rfl (by kernel_rfl) (by kernel_rfl) (by kernel_rfl) (by kernel_rfl) (fun _ _ _ h => h) (yieldsIf_load_mid (by rfl) _ _ rfl _ _ rfl (uV E11 4) _ (fun _ hw => hw.2) Tryz.underlying84 rfl sizeU) hT (fun _ => trivial) ?_
          simp only [Act.put, List.getElem_toArray, List.getElem_cons_zero, List.getElem_cons_succ, List.setIfInBounds_toArray, List.set_cons_zero, List.set_cons_succ]
          refine anyT_one (i := 1) (by kernel_rfl) rfl (fun K hK => ?_)
          go_simp
          refine (CI _).mono ?_
          rintro e wv0 ⟨rfl, bv0⟩
          go_wp2_with (fail)
          replace hn2 := hn2.below bv0
          replace hr2 := hr2.below bv0
          replace h32 := h32.below bv0
          replace bel2 := below_on bel2 bv0
          refine hK.out _ _ (And.intro hn2.range h32.range) (fun _ => trivial) ?_
          clear hK K bv0 CI
          refine anyT_one (i := 2) (by kernel_rfl) rfl (fun K hK => ?_)
          go_simp
          refine (CS5 _).mono ?_
          rintro e wv1 ⟨rfl, bv1⟩
          go_wp2_with (fail)
          replace hn2 := hn2.below bv1
          replace hr2 := hr2.below bv1
          replace h32 := h32.below bv1
          replace bel2 := below_on bel2 bv1
          refine hK.out _ _ (And.intro hn2.range h32.range) (fun _ => trivial) ?_
          clear hK K bv1 CS5
          refine anyT_one (i := 4) (by kernel_rfl) rfl (fun K hK => ?_)
          go_simp
          refine (CT5 _).mono ?_
          rintro e wv2 ⟨rfl, bv2⟩
          go_wp2_with (fail)
          replace hn2 := hn2.below bv2
          replace hr2 := hr2.below bv2
          replace h32 := h32.below bv2
          replace bel2 := below_on bel2 bv2
          refine hK.out _ _ (And.intro hn2.range h32.range) (fun _ => trivial) ?_
          clear hK K bv2 CT5
          have hq := hr2.put (f' := V)
          have hthq := hr2.there2 (f' := V)
          have hwq := hr2.lt
          have hT3 := And.intro (hn2.kept hq.2 hne).range (h32.kept hq.2 (Ne.symm hg3r)).range
          have hbel := bel2.grown hq.2 (by omega) (fun k hk => by cases hk; exact hloR)
          have hld := run_loadVar_mid (P := Tryz.prog) _ G1 0 84 _ _ hq.1.range Tryz.underlying84 rfl sizeU
          clear hq hn2 hr2 h32 bel2 hT
          refine anyT_one (i := 5) (by kernel_rfl) rfl (fun K hK => ?_)
          refine wp_store_mid 84 _ _ rfl G1 0 (uV V 4).toArray rfl rfl hthq sizeU2 (all_oneCell_toArray (uV_one V 4)) ?_
          refine hK.out _ _ hT3 (fun _ => trivial) ?_
          clear hK K
          refine anyT_done (by kernel_rfl) ?_ _
          refine NoPanic.normal ?_
          generalize World.setCells wv2 G1 0 _ = w8 at hbel hld ⊢
          go_wp2_with (fail)
          (try simp only [Exit.inBlock, Exit.then])
          refine bodyPost_ret (v := .agg (uV V 4).toArray) ?_ rfl ⟨rfl, hbel⟩
          simp [results, asAddr, Act.put, hld]
        · go_simp
          have h3_6 := RowU.made wY3 84 4 LO (fun _ => 0) (by decide) (by rw [hLO.out]; exact Below.size kY3)
          rw [← hZ.out] at h3_6
          have bY6 : Below wY3.heap.size wY3 (wY3.alloc (.cells Z 84)) := (Below.refl _ _).alloc (Nat.le_refl _) _
          have kY6 := below_on kY3 bY6
          refine hK.out _ _ (hn.below kY6).range (fun _ => trivial) ?_
          clear hK K
          generalize wY3.alloc (.cells Z 84) = wY6 at h3_6 bY6 kY6 ⊢
          obtain ⟨g3, hg3⟩ : ∃ g3, g3 = wY3.heap.size := ⟨_, rfl⟩
          rw [← hg3] at h3_6 ⊢
          clear hg3
          refine anyT_one (i := 6) (by kernel_rfl) rfl (fun K hK => ?_)
          go_simp
          refine (CT2 _).mono ?_
          rintro e wY7 ⟨rfl, bY7⟩
          have kY7 := below_on kY6 bY7
          have h3_7 := RowU.below h3_6 bY7
          go_wp2_with (fail)
          refine hK.out _ _ (hn.below kY7).range (fun _ => trivial) ?_
          clear hK K
          have hp := RowU.put h3_7 (f' := E11)
          have hth2 := RowU.there2 h3_7 (f' := E11)
          have hlt3 := RowU.lt h3_7
          rw [hLO.out] at hlt3
          have hnw := hn.lt
          have hrw := hr.lt
          have hn2 := (hn.below kY7).kept hp.2 (by omega)
          have hr2 := (hr.below kY7).kept hp.2 (by omega)
          have bel1 := below_on bel kY7
          have hsk := Below.size kY7
          have bel2 := bel1.grown hp.2 (by omega) (fun k hk => by cases hk; omega)
          have h32 := hp.1
          have hg3r : G1 ≠ g3 := by omega
          have hg3w : w.heap.size ≤ g3 := by omega
          refine anyT_one (i := 8) (by kernel_rfl) rfl (fun K hK => ?_)
          refine wp_store_mid 84 _ _ rfl g3 0 (uV E11 4).toArray rfl rfl hth2 sizeU2 (all_oneCell_toArray (uV_one E11 4)) ?_
          refine hK.out _ _ hn2.range (fun _ => trivial) ?_
          clear hK K
          refine anyT_done (by kernel_rfl) ?_ _
          refine NoPanic.normal ?_
          generalize World.setCells wY7 g3 0 _ = w5 at hp hn2 hr2 bel2 h32 ⊢
          clear hp hth2 h3_7 hlt3 hnw hrw bel1 CS3 CS1 CT1 CT2 hsk hn hr bel
          have hd0 : Below w5.heap.size w5 w5.drew := (Below.refl _ _).drew
          go_wp2_with (fail)
          refine wp_region_noPanic ?_
          refine wp_region_T 99 (fun X => X.rangeAt w.heap.size 0 (uV F 4) ∧ X.rangeAt g3 0 (uV E11 4)) (fun _ => True) (by kernel_rfl) ?_
          generalize w5.drew = wZ at hd0 ⊢
          replace hn2 := hn2.below hd0
          replace hr2 := hr2.below hd0
          replace h32 := h32.below hd0
          replace bel2 := below_on bel2 hd0
          have hT := And.intro hn2.range h32.range
          refine anyT_takeT (i := 0) rfl (by kernel_rfl) (by kernel_rfl) (by kernel_rfl) (by kernel_rfl) (fun _ _ _ h => h) (yieldsIf_load_mid (by rfl) _ _ rfl _ _ rfl (uV F 4) _ (fun _ hw => hw.1) Tryz.underlying84 rfl sizeU) hT (fun _ => trivial) ?_
          simp only [Act.put, List.getElem_toArray, List.getElem_cons_zero, List.setIfInBounds_toArray]
          refine anyT_takeT (i := 3) rfl (by kernel_rfl) (by kernel_rfl) (by kernel_rfl) (by kernel_rfl) (fun _ _ _ h => h) (yieldsIf_load_mid (by rfl) _ _ rfl _ _ rfl (uV E11 4) _ (fun _ hw => hw.2) Tryz.underlying84 rfl sizeU) hT (fun _ => trivial) ?_
          simp only [Act.put, List.getElem_toArray, List.getElem_cons_zero, List.getElem_cons_succ, List.setIfInBounds_toArray, List.set_cons_zero, List.set_cons_succ]
          refine anyT_one (i := 1) (by kernel_rfl) rfl (fun K hK => ?_)
          go_simp
          refine (CI _).mono ?_
          rintro e wv0 ⟨rfl, bv0⟩
          go_wp2_with (fail)
          replace hn2 := hn2.below bv0
          replace hr2 := hr2.below bv0
          replace h32 := h32.below bv0
          replace bel2 := below_on bel2 bv0
          refine hK.out _ _ (And.intro hn2.range h32.range) (fun _ => trivial) ?_
          clear hK K bv0 CI
          refine anyT_one (i := 2) (by kernel_rfl) rfl (fun K hK => ?_)
          go_simp
          refine (CS5 _).mono ?_
          rintro e wv1 ⟨rfl, bv1⟩
          go_wp2_with (fail)
          replace hn2 := hn2.below bv1
          replace hr2 := hr2.below bv1
          replace h32 := h32.below bv1
          replace bel2 := below_on bel2 bv1
          refine hK.out _ _ (And.intro hn2.range h32.range) (fun _ => trivial) ?_
          clear hK K bv1 CS5
          refine anyT_one (i := 4) (by kernel_rfl) rfl (fun K hK => ?_)
          go_simp
          refine (CT5 _).mono ?_
          rintro e wv2 ⟨rfl, bv2⟩
          go_wp2_with (fail)
          replace hn2 := hn2.below bv2
          replace hr2 := hr2.below bv2
          replace h32 := h32.below bv2
          replace bel2 := below_on bel2 bv2
          refine hK.out _ _ (And.intro hn2.range h32.range) (fun _ => trivial) ?_
          clear hK K bv2 CT5
          have hq := hr2.put (f' := V)
          have hthq := hr2.there2 (f' := V)
          have hwq := hr2.lt
          have hT3 := And.intro (hn2.kept hq.2 hne).range (h32.kept hq.2 (Ne.symm hg3r)).range
          have hbel := bel2.grown hq.2 (by omega) (fun k hk => by cases hk; exact hloR)
          have hld := run_loadVar_mid (P := Tryz.prog) _ G1 0 84 _ _ hq.1.range Tryz.underlying84 rfl sizeU
          clear hq hn2 hr2 h32 bel2 hT
          refine anyT_one (i := 5) (by kernel_rfl) rfl (fun K hK => ?_)
          refine wp_store_mid 84 _ _ rfl G1 0 (uV V 4).toArray rfl rfl hthq sizeU2 (all_oneCell_toArray (uV_one V 4)) ?_
          refine hK.out _ _ hT3 (fun _ => trivial) ?_
          clear hK K
          refine anyT_done (by kernel_rfl) ?_ _
          refine NoPanic.normal ?_
          generalize World.setCells wv2 G1 0 _ = w8 at hbel hld ⊢
          go_wp2_with (fail)
          (try simp only [Exit.inBlock, Exit.then])
          refine bodyPost_ret (v := .agg (uV V 4).toArray) ?_ rfl ⟨rfl, hbel⟩
          simp [results, asAddr, Act.put, hld]
      · go_simp
        have h3_8 := RowU.made wY2 84 4 LO (fun _ => 0) (by decide) (by rw [hLO.out]; exact Below.size kY2)
        rw [← hZ.out] at h3_8
        have bY8 : Below wY2.heap.size wY2 (wY2.alloc (.cells Z 84)) := (Below.refl _ _).alloc (Nat.le_refl _) _
        have kY8 := below_on kY2 bY8
        refine hK.out _ _ (hn.below kY8).range (fun _ => trivial) ?_
        clear hK K
        generalize wY2.alloc (.cells Z 84) = wY8 at h3_8 bY8 kY8 ⊢
        obtain ⟨g3, hg3⟩ : ∃ g3, g3 = wY2.heap.size := ⟨_, rfl⟩
        rw [← hg3] at h3_8 ⊢
        clear hg3
        refine anyT_one (i := 4) (by kernel_rfl) rfl (fun K hK => ?_)
        go_simp
        refine (CT1 _).mono ?_
        rintro e wY9 ⟨rfl, bY9⟩
        have kY9 := below_on kY8 bY9
        have h3_9 := RowU.below h3_8 bY9
        go_wp2_with (fail)
        refine hK.out _ _ (hn.below kY9).range (fun _ => trivial) ?_
        clear hK K
        refine anyT_one (i := 6) (by kernel_rfl) rfl (fun K hK => ?_)
        go_simp
        refine (CT2 _).mono ?_
        rintro e wY10 ⟨rfl, bY10⟩
        have kY10 := below_on kY9 bY10
        have h3_10 := RowU.below h3_9 bY10
        go_wp2_with (fail)
        refine hK.out _ _ (hn.below kY10).range (fun _ => trivial) ?_
        clear hK K
        have hp := RowU.put h3_10 (f' := E11)
        have hth2 := RowU.there2 h3_10 (f' := E11)
        have hlt3 := RowU.lt h3_10
        rw [hLO.out] at hlt3
        have hnw := hn.lt
        have hrw := hr.lt
        have hn2 := (hn.below kY10).kept hp.2 (by omega)
        have hr2 := (hr.below kY10).kept hp.2 (by omega)
        have bel1 := below_on bel kY10
        have hsk := Below.size kY10
        have bel2 := bel1.grown hp.2 (by omega) (fun k hk => by cases hk; omega)
        have h32 := hp.1
        have hg3r : G1 ≠ g3 := by omega
        have hg3w : w.heap.size ≤ g3 := by omega
        refine anyT_one (i := 8) (by kernel_rfl) rfl (fun K hK => ?_)
        refine wp_store_mid 84 _ _ rfl g3 0 (uV E11 4).toArray rfl rfl hth2 sizeU2 (all_oneCell_toArray (uV_one E11 4)) ?_
        refine hK.out _ _ hn2.range (fun _ => trivial) ?_
        clear hK K
        refine anyT_done (by kernel_rfl) ?_ _
        refine NoPanic.normal ?_
        generalize World.setCells wY10 g3 0 _ = w5 at hp hn2 hr2 bel2 h32 ⊢
        clear hp hth2 h3_10 hlt3 hnw hrw bel1 CS3 CS1 CT1 CT2 hsk hn hr bel
        have hd0 : Below w5.heap.size w5 w5.drew := (Below.refl _ _).drew
        go_wp2_with (fail)
        refine wp_region_noPanic ?_
        refine wp_region_T 99 (fun X => X.rangeAt w.heap.size 0 (uV F 4) ∧ X.rangeAt g3 0 (uV E11 4)) (fun _ => True) (by kernel_rfl) ?_
        generalize w5.drew = wZ at hd0 ⊢
        replace hn2 := hn2.below hd0
        replace hr2 := hr2.below hd0
        replace h32 := h32.below hd0
        replace bel2 := below_on bel2 hd0
        have hT := And.intro hn2.range h32.range
        refine anyT_takeT (i := 0) rfl (by kernel_rfl) (by kernel_rfl) (by kernel_rfl) (by kernel_rfl) (fun _ _ _ h => h) (yieldsIf_load_mid (by rfl) _ _ rfl _ _ rfl (uV F 4) _ (fun _ hw => hw.1) Tryz.underlying84 rfl sizeU) hT (fun _ => trivial) ?_
        simp only [Act.put, List.getElem_toArray, List.getElem_cons_zero, List.setIfInBounds_toArray]
        refine anyT_takeT (i := 3) rfl (by kernel_rfl) (by kernel_rfl) (by kernel_rfl) (by kernel_rfl) (fun _ _ _ h => h) (yieldsIf_load_mid (by rfl) _ _ rfl _ _ rfl (uV E11 4) _ (fun _ hw => hw.2) Tryz.underlying84 rfl sizeU) hT (fun _ => trivial) ?_
        simp only [Act.put, List.getElem_toArray, List.getElem_cons_zero, List.getElem_cons_succ, List.setIfInBounds_toArray, List.set_cons_zero, List.set_cons_succ]
        refine anyT_one (i := 1) (by kernel_rfl) rfl (fun K hK => ?_)
        go_simp
        refine (CI _).mono ?_
        rintro e wv0 ⟨rfl, bv0⟩
        go_wp2_with (fail)
        replace hn2 := hn2.below bv0
        replace hr2 := hr2.below bv0
        replace h32 := h32.below bv0
        replace bel2 := below_on bel2 bv0
        refine hK.out _ _ (And.intro hn2.range h32.range) (fun _ => trivial) ?_
        clear hK K bv0 CI
        refine anyT_one (i := 2) (by kernel_rfl) rfl (fun K hK => ?_)
        go_simp
        refine (CS5 _).mono ?_
        rintro e wv1 ⟨rfl, bv1⟩
        go_wp2_with (fail)
        replace hn2 := hn2.below bv1
        replace hr2 := hr2.below bv1
        replace h32 := h32.below bv1
        replace bel2 := below_on bel2 bv1
        refine hK.out _ _ (And.intro hn2.range h32.range) (fun _ => trivial) ?_
        clear hK K bv1 CS5
        refine anyT_one (i := 4) (by kernel_rfl) rfl (fun K hK => ?_)
        go_simp
        refine (CT5 _).mono ?_
        rintro e wv2 ⟨rfl, bv2⟩
        go_wp2_with (fail)
        replace hn2 := hn2.below bv2
        replace hr2 := hr2.below bv2
        replace h32 := h32.below bv2
        replace bel2 := below_on bel2 bv2
        refine hK.out _ _ (And.intro hn2.range h32.range) (fun _ => trivial) ?_
        clear hK K bv2 CT5
        have hq := hr2.put (f' := V)
        have hthq := hr2.there2 (f' := V)
        have hwq := hr2.lt
        have hT3 := And.intro (hn2.kept hq.2 hne).range (h32.kept hq.2 (Ne.symm hg3r)).range
        have hbel := bel2.grown hq.2 (by omega) (fun k hk => by cases hk; exact hloR)
        have hld := run_loadVar_mid (P := Tryz.prog) _ G1 0 84 _ _ hq.1.range Tryz.underlying84 rfl sizeU
        clear hq hn2 hr2 h32 bel2 hT
        refine anyT_one (i := 5) (by kernel_rfl) rfl (fun K hK => ?_)
        refine wp_store_mid 84 _ _ rfl G1 0 (uV V 4).toArray rfl rfl hthq sizeU2 (all_oneCell_toArray (uV_one V 4)) ?_
        refine hK.out _ _ hT3 (fun _ => trivial) ?_
        clear hK K
        refine anyT_done (by kernel_rfl) ?_ _
        refine NoPanic.normal ?_
        generalize World.setCells wv2 G1 0 _ = w8 at hbel hld ⊢
        go_wp2_with (fail)
        (try simp only [Exit.inBlock, Exit.then])
        refine bodyPost_ret (v := .agg (uV V 4).toArray) ?_ rfl ⟨rfl, hbel⟩
        simp [results, asAddr, Act.put, hld]
    · go_simp
      have h3_11 := RowU.made wY1 84 4 LO (fun _ => 0) (by decide) (by rw [hLO.out]; exact Below.size kY1)
      rw [← hZ.out] at h3_11
      have bY11 : Below wY1.heap.size wY1 (wY1.alloc (.cells Z 84)) := (Below.refl _ _).alloc (Nat.le_refl _) _
      have kY11 := below_on kY1 bY11
      refine hK.out _ _ (hn.below kY11).range (fun _ => trivial) ?_
      clear hK K
      generalize wY1.alloc (.cells Z 84) = wY11 at h3_11 bY11 kY11 ⊢
      obtain ⟨g3, hg3⟩ : ∃ g3, g3 = wY1.heap.size := ⟨_, rfl⟩
      rw [← hg3] at h3_11 ⊢
      clear hg3
      refine anyT_one (i := 3) (by kernel_rfl) rfl (fun K hK => ?_)
      go_simp
      refine (CS1 _).mono ?_
      rintro e wY12 ⟨rfl, bY12⟩
      have kY12 := below_on kY11 bY12
      have h3_12 := RowU.below h3_11 bY12
      go_wp2_with (fail)
      refine hK.out _ _ (hn.below kY12).range (fun _ => trivial) ?_
      clear hK K
      refine anyT_one (i := 4) (by kernel_rfl) rfl (fun K hK => ?_)
      go_simp
      refine (CT1 _).mono ?_
      rintro e wY13 ⟨rfl, bY13⟩
      have kY13 := below_on kY12 bY13
      have h3_13 := RowU.below h3_12 bY13
      go_wp2_with (fail)
      refine hK.out _ _ (hn.below kY13).range (fun _ => trivial) ?_
      clear hK K
      refine anyT_one (i := 6) (by kernel_rfl) rfl (fun K hK => ?_)
      go_simp
      refine (CT2 _).mono ?_
      rintro e wY14 ⟨rfl, bY14⟩
      have kY14 := below_on kY13 bY14
      have h3_14 := RowU.below h3_13 bY14
      go_wp2_with (fail)
      refine hK.out _ _ (hn.below kY14).range (fun _ => trivial) ?_
      clear hK K
      have hp := RowU.put h3_14 (f' := E11)
      have hth2 := RowU.there2 h3_14 (f' := E11)
      have hlt3 := RowU.lt h3_14
      rw [hLO.out] at hlt3
      have hnw := hn.lt
      have hrw := hr.lt
      have hn2 := (hn.below kY14).kept hp.2 (by omega)
      have hr2 := (hr.below kY14).kept hp.2 (by omega)
      have bel1 := below_on bel kY14
      have hsk := Below.size kY14
      have bel2 := bel1.grown hp.2 (by omega) (fun k hk => by cases hk; omega)
      have h32 := hp.1
      have hg3r : G1 ≠ g3 := by omega
      have hg3w : w.heap.size ≤ g3 := by omega
      refine anyT_one (i := 8) (by kernel_rfl) rfl (fun K hK => ?_)
      refine wp_store_mid 84 _ _ rfl g3 0 (uV E11 4).toArray rfl rfl hth2 sizeU2 (all_oneCell_toArray (uV_one E11 4)) ?_
      refine hK.out _ _ hn2.range (fun _ => trivial) ?_
      clear hK K
      refine anyT_done (by kernel_rfl) ?_ _
      refine NoPanic.normal ?_
      generalize World.setCells wY14 g3 0 _ = w5 at hp hn2 hr2 bel2 h32 ⊢
      clear hp hth2 h3_14 hlt3 hnw hrw bel1 CS3 CS1 CT1 CT2 hsk hn hr bel
      have hd0 : Below w5.heap.size w5 w5.drew := (Below.refl _ _).drew
      go_wp2_with (fail)
      refine wp_region_noPanic ?_
      refine wp_region_T 99 (fun X => X.rangeAt w.heap.size 0 (uV F 4) ∧ X.rangeAt g3 0 (uV E11 4)) (fun _ => True) (by kernel_rfl) ?_
      generalize w5.drew = wZ at hd0 ⊢
      replace hn2 := hn2.below hd0
      replace hr2 := hr2.below hd0
      replace h32 := h32.below hd0
      replace bel2 := below_on bel2 hd0
      have hT := And.intro hn2.range h32.range
      refine anyT_takeT (i := 0) rfl (by kernel_rfl) (by kernel_rfl) (by kernel_rfl) (by kernel_rfl) (fun _ _ _ h => h) (yieldsIf_load_mid (by rfl) _ _ rfl _ _ rfl (uV F 4) _ (fun _ hw => hw.1) Tryz.underlying84 rfl sizeU) hT (fun _ => trivial) ?_
      simp only [Act.put, List.getElem_toArray, List.getElem_cons_zero, List.setIfInBounds_toArray]
      refine anyT_takeT (i := 3) rfl (by kernel_rfl) (by kernel_rfl) (by kernel_rfl) (by kernel_rfl) (fun _ _ _ h => h) (yieldsIf_load_mid (by rfl) _ _ rfl _ _ rfl (uV E11 4) _ (fun _ hw => hw.2) Tryz.underlying84 rfl sizeU) hT (fun _ => trivial) ?_
      simp only [Act.put, List.getElem_toArray, List.getElem_cons_zero, List.getElem_cons_succ, List.setIfInBounds_toArray, List.set_cons_zero, List.set_cons_succ]
      refine anyT_one (i := 1) (by kernel_rfl) rfl (fun K hK => ?_)
      go_simp
      refine (CI _).mono ?_
      rintro e wv0 ⟨rfl, bv0⟩
      go_wp2_with (fail)
      replace hn2 := hn2.below bv0
      replace hr2 := hr2.below bv0
      replace h32 := h32.below bv0
      replace bel2 := below_on bel2 bv0
      refine hK.out _ _ (And.intro hn2.range h32.range) (fun _ => trivial) ?_
      clear hK K bv0 CI
      refine anyT_one (i := 2) (by kernel_rfl) rfl (fun K hK => ?_)
      go_simp
      refine (CS5 _).mono ?_
      rintro e wv1 ⟨rfl, bv1⟩
      go_wp2_with (fail)
      replace hn2 := hn2.below bv1
      replace hr2 := hr2.below bv1
      replace h32 := h32.below bv1
      replace bel2 := below_on bel2 bv1
      refine hK.out _ _ (And.intro hn2.range h32.range) (fun _ => trivial) ?_
      clear hK K bv1 CS5
      refine anyT_one (i := 4) (by kernel_rfl) rfl (fun K hK => ?_)
      go_simp
      refine (CT5 _).mono ?_
      rintro e wv2 ⟨rfl, bv2⟩
      go_wp2_with (fail)
      replace hn2 := hn2.below bv2
      replace hr2 := hr2.below bv2
      replace h32 := h32.below bv2
      replace bel2 := below_on bel2 bv2
      refine hK.out _ _ (And.intro hn2.range h32.range) (fun _ => trivial) ?_
      clear hK K bv2 CT5
      have hq := hr2.put (f' := V)
      have hthq := hr2.there2 (f' := V)
      have hwq := hr2.lt
      have hT3 := And.intro (hn2.kept hq.2 hne).range (h32.kept hq.2 (Ne.symm hg3r)).range
      have hbel := bel2.grown hq.2 (by omega) (fun k hk => by cases hk; exact hloR)
      have hld := run_loadVar_mid (P := Tryz.prog) _ G1 0 84 _ _ hq.1.range Tryz.underlying84 rfl sizeU
      clear hq hn2 hr2 h32 bel2 hT
      refine anyT_one (i := 5) (by kernel_rfl) rfl (fun K hK => ?_)
      refine wp_store_mid 84 _ _ rfl G1 0 (uV V 4).toArray rfl rfl hthq sizeU2 (all_oneCell_toArray (uV_one V 4)) ?_
      refine hK.out _ _ hT3 (fun _ => trivial) ?_
      clear hK K
      refine anyT_done (by kernel_rfl) ?_ _
      refine NoPanic.normal ?_
      generalize World.setCells wv2 G1 0 _ = w8 at hbel hld ⊢
      go_wp2_with (fail)
      (try simp only [Exit.inBlock, Exit.then])
      refine bodyPost_ret (v := .agg (uV V 4).toArray) ?_ rfl ⟨rfl, hbel⟩
      simp [results, asAddr, Act.put, hld]
  · go_simp
    have h3_15 := RowU.made W 84 4 LO (fun _ => 0) (by decide) (by rw [hLO.out]; exact Below.size kX)
    rw [← hZ.out] at h3_15
    have bY15 : Below W.heap.size W (W.alloc (.cells Z 84)) := (Below.refl _ _).alloc (Nat.le_refl _) _
    have kY15 := below_on kX bY15
    refine hK.out _ _ (hn.below kY15).range (fun _ => trivial) ?_
    clear hK K
    generalize W.alloc (.cells Z 84) = wY15 at h3_15 bY15 kY15 ⊢
    obtain ⟨g3, hg3⟩ : ∃ g3, g3 = W.heap.size := ⟨_, rfl⟩
    rw [← hg3] at h3_15 ⊢
    clear hg3
    refine anyT_one (i := 1) (by kernel_rfl) rfl (fun K hK => ?_)
    go_simp
    refine (CS3 _).mono ?_
    rintro e wY16 ⟨rfl, bY16⟩
    have kY16 := below_on kY15 bY16
    have h3_16 := RowU.below h3_15 bY16
    go_wp2_with (fail)
    refine hK.out _ _ (hn.below kY16).range (fun _ => trivial) ?_
    clear hK K
    refine anyT_one (i := 3) (by kernel_rfl) rfl (fun K hK => ?_)
    go_simp
    refine (CS1 _).mono ?_
    rintro e wY17 ⟨rfl, bY17⟩
    have kY17 := below_on kY16 bY17
    have h3_17 := RowU.below h3_16 bY17
    go_wp2_with (fail)
    refine hK.out _ _ (hn.below kY17).range (fun _ => trivial) ?_
    clear hK K
    refine anyT_one (i := 4) (by kernel_rfl) rfl (fun K hK => ?_)
    go_simp
    refine (CT1 _).mono ?_
    rintro e wY18 ⟨rfl, bY18⟩
    have kY18 := below_on kY17 bY18
    have h3_18 := RowU.below h3_17 bY18
    go_wp2_with (fail)
    refine hK.out _ _ (hn.below kY18).range (fun _ => trivial) ?_
    clear hK K
    refine anyT_one (i := 6) (by kernel_rfl) rfl (fun K hK => ?_)
    go_simp
    refine (CT2 _).mono ?_
    rintro e wY19 ⟨rfl, bY19⟩
    have kY19 := below_on kY18 bY19
    have h3_19 := RowU.below h3_18 bY19
    go_wp2_with (fail)
    refine hK.out _ _ (hn.below kY19).range (fun _ => trivial) ?_
    clear hK K
    have hp := RowU.put h3_19 (f' := E11)
    have hth2 := RowU.there2 h3_19 (f' := E11)
    have hlt3 := RowU.lt h3_19
    rw [hLO.out] at hlt3
    have hnw := hn.lt
    have hrw := hr.lt
    have hn2 := (hn.below kY19).kept hp.2 (by omega)
    have hr2 := (hr.below kY19).kept hp.2 (by omega)
    have bel1 := below_on bel kY19
    have hsk := Below.size kY19
    have bel2 := bel1.grown hp.2 (by omega) (fun k hk => by cases hk; omega)
    have h32 := hp.1
    have hg3r : G1 ≠ g3 := by omega
    have hg3w : w.heap.size ≤ g3 := by omega
    refine anyT_one (i := 8) (by kernel_rfl) rfl (fun K hK => ?_)
    refine wp_store_mid 84 _ _ rfl g3 0 (uV E11 4).toArray rfl rfl hth2 sizeU2 (all_oneCell_toArray (uV_one E11 4)) ?_
    refine hK.out _ _ hn2.range (fun _ => trivial) ?_
    clear hK K
    refine anyT_done (by kernel_rfl) ?_ _
    refine NoPanic.normal ?_
    generalize World.setCells wY19 g3 0 _ = w5 at hp hn2 hr2 bel2 h32 ⊢
    clear hp hth2 h3_19 hlt3 hnw hrw bel1 CS3 CS1 CT1 CT2 hsk hn hr bel
    have hd0 : Below w5.heap.size w5 w5.drew := (Below.refl _ _).drew
    go_wp2_with (fail)
    refine wp_region_noPanic ?_
    refine wp_region_T 99 (fun X => X.rangeAt w.heap.size 0 (uV F 4) ∧ X.rangeAt g3 0 (uV E11 4)) (fun _ => True) (by kernel_rfl) ?_
    generalize w5.drew = wZ at hd0 ⊢
    replace hn2 := hn2.below hd0
    replace hr2 := hr2.below hd0
    replace h32 := h32.below hd0
    replace bel2 := below_on bel2 hd0
    have hT := And.intro hn2.range h32.range
    refine anyT_takeT (i := 0) rfl (by kernel_rfl) (by kernel_rfl) (by kernel_rfl) (by kernel_rfl) (fun _ _ _ h => h) (yieldsIf_load_mid (by rfl) _ _ rfl _ _ rfl (uV F 4) _ (fun _ hw => hw.1) Tryz.underlying84 rfl sizeU) hT (fun _ => trivial) ?_
    simp only [Act.put, List.getElem_toArray, List.getElem_cons_zero, List.setIfInBounds_toArray]
    refine anyT_takeT (i := 3) rfl (by kernel_rfl) (by kernel_rfl) (by kernel_rfl) (by kernel_rfl) (fun _ _ _ h => h) (yieldsIf_load_mid (by rfl) _ _ rfl _ _ rfl (uV E11 4) _ (fun _ hw => hw.2) Tryz.underlying84 rfl sizeU) hT (fun _ => trivial) ?_
    simp only [Act.put, List.getElem_toArray, List.getElem_cons_zero, List.getElem_cons_succ, List.setIfInBounds_toArray, List.set_cons_zero, List.set_cons_succ]
    refine anyT_one (i := 1) (by kernel_rfl) rfl (fun K hK => ?_)
    go_simp
    refine (CI _).mono ?_
    rintro e wv0 ⟨rfl, bv0⟩
    go_wp2_with (fail)
    replace hn2 := hn2.below bv0
    replace hr2 := hr2.below bv0
    replace h32 := h32.below bv0
    replace bel2 := below_on bel2 bv0
    refine hK.out _ _ (And.intro hn2.range h32.range) (fun _ => trivial) ?_
    clear hK K bv0 CI
    refine anyT_one (i := 2) (by kernel_rfl) rfl (fun K hK => ?_)
    go_simp
    refine (CS5 _).mono ?_
    rintro e wv1 ⟨rfl, bv1⟩
    go_wp2_with (fail)
    replace hn2 := hn2.below bv1
    replace hr2 := hr2.below bv1
    replace h32 := h32.below bv1
    replace bel2 := below_on bel2 bv1
    refine hK.out _ _ (And.intro hn2.range h32.range) (fun _ => trivial) ?_
    clear hK K bv1 CS5
    refine anyT_one (i := 4) (by kernel_rfl) rfl (fun K hK => ?_)
    go_simp
    refine (CT5 _).mono ?_
    rintro e wv2 ⟨rfl, bv2⟩
    go_wp2_with (fail)
    replace hn2 := hn2.below bv2
    replace hr2 := hr2.below bv2
    replace h32 := h32.below bv2
    replace bel2 := below_on bel2 bv2
    refine hK.out _ _ (And.intro hn2.range h32.range) (fun _ => trivial) ?_
    clear hK K bv2 CT5
    have hq := hr2.put (f' := V)
    have hthq := hr2.there2 (f' := V)
    have hwq := hr2.lt
    have hT3 := And.intro (hn2.kept hq.2 hne).range (h32.kept hq.2 (Ne.symm hg3r)).range
    have hbel := bel2.grown hq.2 (by omega) (fun k hk => by cases hk; exact hloR)
    have hld := run_loadVar_mid (P := Tryz.prog) _ G1 0 84 _ _ hq.1.range Tryz.underlying84 rfl sizeU
    clear hq hn2 hr2 h32 bel2 hT
    refine anyT_one (i := 5) (by kernel_rfl) rfl (fun K hK => ?_)
    refine wp_store_mid 84 _ _ rfl G1 0 (uV V 4).toArray rfl rfl hthq sizeU2 (all_oneCell_toArray (uV_one V 4)) ?_
    refine hK.out _ _ hT3 (fun _ => trivial) ?_
    clear hK K
    refine anyT_done (by kernel_rfl) ?_ _
    refine NoPanic.normal ?_
    generalize World.setCells wv2 G1 0 _ = w8 at hbel hld ⊢
    go_wp2_with (fail)
    (try simp only [Exit.inBlock, Exit.then])
    refine bodyPost_ret (v := .agg (uV V 4).toArray) ?_ rfl ⟨rfl, hbel⟩
    simp [results, asAddr, Act.put, hld]

end Go.Proofs.YtdjdanpicbaieaaGreatDoor
