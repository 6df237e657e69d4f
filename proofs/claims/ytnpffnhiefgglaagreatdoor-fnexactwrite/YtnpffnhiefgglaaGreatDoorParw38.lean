/-
  What the program's step of a ladder answers, by what its sums and products answer. Conditions: these.
-/
import Derived.Test.YtnpffnhiefgglaaGreatDoorParw37
namespace Go.Proofs.YtnpffnhiefgglaaGreatDoor
open Go.RowKit
set_option maxRecDepth 100000
set_option maxHeartbeats 8000000 in
theorem step_sym (LX LA LC LB LD LK La Lb Laa Lbb Le Lc Ld Lda Lcb Lboth Lbet LnB Lbb2 LnD LnA Lek Ls LnC : List Value) (w : World) (hK : LK = uV (numU 121665) 4) (qX : Q4 LX) (qA : Q4 LA) (qC : Q4 LC) (qB : Q4 LB) (qD : Q4 LD) (qa : Q4 La) (qb : Q4 Lb) (qaa : Q4 Laa) (qbb : Q4 Lbb) (qe : Q4 Le) (qc : Q4 Lc) (qd : Q4 Ld) (qda : Q4 Lda) (qcb : Q4 Lcb) (qboth : Q4 Lboth) (qbet : Q4 Lbet) (qnB : Q4 LnB) (qnD : Q4 LnD) (qnA : Q4 LnA) (qnC : Q4 LnC)
    (CP1 : ∀ X, Calls Tryz.prog 177 #[.agg LA.toArray, .agg LC.toArray] X fun e w' => e = .returned (.agg La.toArray) ∧ Below X.heap.size X w')
    (CM1 : ∀ X, Calls Tryz.prog 178 #[.agg LA.toArray, .agg LC.toArray] X fun e w' => e = .returned (.agg Lb.toArray) ∧ Below X.heap.size X w')
    (CT1 : ∀ X, Calls Tryz.prog 96 #[.agg La.toArray, .agg La.toArray] X fun e w' => e = .returned (.agg Laa.toArray) ∧ Below X.heap.size X w')
    (CT2 : ∀ X, Calls Tryz.prog 96 #[.agg Lb.toArray, .agg Lb.toArray] X fun e w' => e = .returned (.agg Lbb.toArray) ∧ Below X.heap.size X w')
    (CM2 : ∀ X, Calls Tryz.prog 178 #[.agg Laa.toArray, .agg Lbb.toArray] X fun e w' => e = .returned (.agg Le.toArray) ∧ Below X.heap.size X w')
    (CP2 : ∀ X, Calls Tryz.prog 177 #[.agg LB.toArray, .agg LD.toArray] X fun e w' => e = .returned (.agg Lc.toArray) ∧ Below X.heap.size X w')
    (CM3 : ∀ X, Calls Tryz.prog 178 #[.agg LB.toArray, .agg LD.toArray] X fun e w' => e = .returned (.agg Ld.toArray) ∧ Below X.heap.size X w')
    (CT3 : ∀ X, Calls Tryz.prog 96 #[.agg Ld.toArray, .agg La.toArray] X fun e w' => e = .returned (.agg Lda.toArray) ∧ Below X.heap.size X w')
    (CT4 : ∀ X, Calls Tryz.prog 96 #[.agg Lc.toArray, .agg Lb.toArray] X fun e w' => e = .returned (.agg Lcb.toArray) ∧ Below X.heap.size X w')
    (CP3 : ∀ X, Calls Tryz.prog 177 #[.agg Lda.toArray, .agg Lcb.toArray] X fun e w' => e = .returned (.agg Lboth.toArray) ∧ Below X.heap.size X w')
    (CM4 : ∀ X, Calls Tryz.prog 178 #[.agg Lda.toArray, .agg Lcb.toArray] X fun e w' => e = .returned (.agg Lbet.toArray) ∧ Below X.heap.size X w')
    (CT5 : ∀ X, Calls Tryz.prog 96 #[.agg Lboth.toArray, .agg Lboth.toArray] X fun e w' => e = .returned (.agg LnB.toArray) ∧ Below X.heap.size X w')
    (CT6 : ∀ X, Calls Tryz.prog 96 #[.agg Lbet.toArray, .agg Lbet.toArray] X fun e w' => e = .returned (.agg Lbb2.toArray) ∧ Below X.heap.size X w')
    (CT7 : ∀ X, Calls Tryz.prog 96 #[.agg LX.toArray, .agg Lbb2.toArray] X fun e w' => e = .returned (.agg LnD.toArray) ∧ Below X.heap.size X w')
    (CT8 : ∀ X, Calls Tryz.prog 96 #[.agg Laa.toArray, .agg Lbb.toArray] X fun e w' => e = .returned (.agg LnA.toArray) ∧ Below X.heap.size X w')
    (CT9 : ∀ X, Calls Tryz.prog 96 #[.agg Le.toArray, .agg LK.toArray] X fun e w' => e = .returned (.agg Lek.toArray) ∧ Below X.heap.size X w')
    (CP4 : ∀ X, Calls Tryz.prog 177 #[.agg Laa.toArray, .agg Lek.toArray] X fun e w' => e = .returned (.agg Ls.toArray) ∧ Below X.heap.size X w')
    (CT10 : ∀ X, Calls Tryz.prog 96 #[.agg Le.toArray, .agg Ls.toArray] X fun e w' => e = .returned (.agg LnC.toArray) ∧ Below X.heap.size X w')
    : Calls Tryz.prog 129 #[.agg (LadV LX LA LC LB LD).toArray] w fun e w' => e = .returned (.agg (LadV LX LnA LnC LnB LnD).toArray) ∧ Below w.heap.size w w' := by
  have hz := (zero_of_info infoLad).1
  obtain ⟨Z20, hZ20⟩ : ∃ Z, Z = (uV (fun _ => 0) 20).toArray := ⟨_, rfl⟩
  rw [← hZ20] at hz
  have BK := fun X => b_curve hK X
  have qK : Q4 LK := by rw [hK]; exact q4 _
  clear hK
  have hlen0 := LadV_length qX qA qC qB qD
  obtain ⟨AL, hAL⟩ : ∃ A, A = (LadV LX LA LC LB LD).toArray := ⟨_, rfl⟩
  obtain ⟨rl, rr, bel, sz⟩ := ladRows w hlen0 (ty := 118) (n := 20) (by decide) hAL hZ20
  rw [← hAL]
  clear hAL hlen0
  obtain ⟨LR, hR⟩ : ∃ L, L = LadV LX LnA LnC LnB LnD := ⟨_, rfl⟩
  rw [← hR]
  replace hR : Hid (LR = LadV LX LnA LnC LnB LnD) := hR
  have hzf := (zero_of_info infoU4).1
  obtain ⟨Z, hZ⟩ : ∃ Z, Z = (uV (fun _ => 0) 4).toArray := ⟨_, rfl⟩
  rw [← hZ] at hzf
  replace hZ : Hid (Z = (uV (fun _ => 0) 4).toArray) := hZ
  replace hZ20 : Hid (Z20 = (uV (fun _ => 0) 20).toArray) := hZ20
  go_enter Tryz.func129, Tryz.ntmps129
  go_wp2_with (fail)
  obtain ⟨Gr, hGr⟩ : ∃ G, G = w.heap.size + 1 := ⟨_, rfl⟩
  rw [← hGr] at rr sz ⊢
  generalize (w.alloc (.cells AL 118)).alloc (.cells Z20 118) = wb at rl rr bel sz ⊢
  have oGr : w.heap.size < Gr := by omega
  clear hGr sz hz hZ20
  clear Z20
  have hd0 : Below wb.heap.size wb wb.drew := (Below.refl _ _).drew
  refine wp_region_noPanic ?_
  refine wp_region_T 99 (fun X => X.rangeAt w.heap.size 4 LA ∧ X.rangeAt w.heap.size 8 LC) (fun _ => True) (by kernel_rfl) ?_
  generalize wb.drew = W1 at hd0 ⊢
  replace rl := rl.below hd0
  replace rr := rr.below hd0
  replace bel := below_on bel hd0
  clear hd0
  have hT : W1.rangeAt w.heap.size 4 LA ∧ W1.rangeAt w.heap.size 8 LC := ⟨(lad_a rl qX), (lad_c rl qX qA)⟩
  refine anyT_takeT (i := 0) (v := .pointer (some ⟨w.heap.size, 4, none⟩)) rfl (by kernel_rfl) (by kernel_rfl) (by kernel_rfl) (by kernel_rfl) (fun _ _ _ h => h) (Or.inl ⟨by rfl, fun X hSw => by ((try dsimp only at hSw); go_simp)⟩) hT (fun _ => trivial) ?_
  simp only [Act.put, List.getElem_toArray, List.getElem_cons_zero, List.setIfInBounds_toArray, List.set_cons_zero, List.set_cons_succ]
  refine anyT_takeT (i := 1) (v := .pointer (some ⟨w.heap.size, 4, none⟩)) rfl (by kernel_rfl) (by kernel_rfl) (by kernel_rfl) (by kernel_rfl) (fun _ _ _ h => h) (Or.inl ⟨by rfl, fun X hSw => by ((try dsimp only at hSw); go_simp)⟩) hT (fun _ => trivial) ?_
  simp only [Act.put, List.getElem_toArray, List.getElem_cons_zero, List.getElem_cons_succ, List.setIfInBounds_toArray, List.set_cons_zero, List.set_cons_succ]
  refine anyT_takeT (i := 2) rfl (by kernel_rfl) (by kernel_rfl) (by kernel_rfl) (by kernel_rfl) (fun _ _ _ h => h) (yieldsIf_load_mid (by rfl) _ _ rfl _ _ rfl LA _ (fun _ hw => hw.1) Tryz.underlying112 rfl qA.sz) hT (fun _ => trivial) ?_
  simp only [Act.put, List.getElem_toArray, List.getElem_cons_zero, List.getElem_cons_succ, List.setIfInBounds_toArray, List.set_cons_zero, List.set_cons_succ]
  refine anyT_takeT (i := 3) (v := .pointer (some ⟨w.heap.size, 4, none⟩)) rfl (by kernel_rfl) (by kernel_rfl) (by kernel_rfl) (by kernel_rfl) (fun _ _ _ h => h) (Or.inl ⟨by rfl, fun X hSw => by ((try dsimp only at hSw); go_simp)⟩) hT (fun _ => trivial) ?_
  simp only [Act.put, List.getElem_toArray, List.getElem_cons_zero, List.getElem_cons_succ, List.setIfInBounds_toArray, List.set_cons_zero, List.set_cons_succ]
  refine anyT_takeT (i := 4) (v := .pointer (some ⟨w.heap.size, 8, none⟩)) rfl (by kernel_rfl) (by kernel_rfl) (by kernel_rfl) (by kernel_rfl) (fun _ _ _ h => h) (Or.inl ⟨by rfl, fun X hSw => by ((try dsimp only at hSw); go_simp)⟩) hT (fun _ => trivial) ?_
  simp only [Act.put, List.getElem_toArray, List.getElem_cons_zero, List.getElem_cons_succ, List.setIfInBounds_toArray, List.set_cons_zero, List.set_cons_succ]
  refine anyT_takeT (i := 5) rfl (by kernel_rfl) (by kernel_rfl) (by kernel_rfl) (by kernel_rfl) (fun _ _ _ h => h) (yieldsIf_load_mid (by rfl) _ _ rfl _ _ rfl LC _ (fun _ hw => hw.2) Tryz.underlying112 rfl qC.sz) hT (fun _ => trivial) ?_
  simp only [Act.put, List.getElem_toArray, List.getElem_cons_zero, List.getElem_cons_succ, List.setIfInBounds_toArray, List.set_cons_zero, List.set_cons_succ]
  refine anyT_takeT (i := 7) (v := .pointer (some ⟨w.heap.size, 4, none⟩)) rfl (by kernel_rfl) (by kernel_rfl) (by kernel_rfl) (by kernel_rfl) (fun _ _ _ h => h) (Or.inl ⟨by rfl, fun X hSw => by ((try dsimp only at hSw); go_simp)⟩) hT (fun _ => trivial) ?_
  simp only [Act.put, List.getElem_toArray, List.getElem_cons_zero, List.getElem_cons_succ, List.setIfInBounds_toArray, List.set_cons_zero, List.set_cons_succ]
  refine anyT_takeT (i := 8) (v := .pointer (some ⟨w.heap.size, 4, none⟩)) rfl (by kernel_rfl) (by kernel_rfl) (by kernel_rfl) (by kernel_rfl) (fun _ _ _ h => h) (Or.inl ⟨by rfl, fun X hSw => by ((try dsimp only at hSw); go_simp)⟩) hT (fun _ => trivial) ?_
  simp only [Act.put, List.getElem_toArray, List.getElem_cons_zero, List.getElem_cons_succ, List.setIfInBounds_toArray, List.set_cons_zero, List.set_cons_succ]
  refine anyT_takeT (i := 9) rfl (by kernel_rfl) (by kernel_rfl) (by kernel_rfl) (by kernel_rfl) (fun _ _ _ h => h) (yieldsIf_load_mid (by rfl) _ _ rfl _ _ rfl LA _ (fun _ hw => hw.1) Tryz.underlying112 rfl qA.sz) hT (fun _ => trivial) ?_
  simp only [Act.put, List.getElem_toArray, List.getElem_cons_zero, List.getElem_cons_succ, List.setIfInBounds_toArray, List.set_cons_zero, List.set_cons_succ]
  refine anyT_takeT (i := 10) (v := .pointer (some ⟨w.heap.size, 4, none⟩)) rfl (by kernel_rfl) (by kernel_rfl) (by kernel_rfl) (by kernel_rfl) (fun _ _ _ h => h) (Or.inl ⟨by rfl, fun X hSw => by ((try dsimp only at hSw); go_simp)⟩) hT (fun _ => trivial) ?_
  simp only [Act.put, List.getElem_toArray, List.getElem_cons_zero, List.getElem_cons_succ, List.setIfInBounds_toArray, List.set_cons_zero, List.set_cons_succ]
  refine anyT_takeT (i := 11) (v := .pointer (some ⟨w.heap.size, 8, none⟩)) rfl (by kernel_rfl) (by kernel_rfl) (by kernel_rfl) (by kernel_rfl) (fun _ _ _ h => h) (Or.inl ⟨by rfl, fun X hSw => by ((try dsimp only at hSw); go_simp)⟩) hT (fun _ => trivial) ?_
  simp only [Act.put, List.getElem_toArray, List.getElem_cons_zero, List.getElem_cons_succ, List.setIfInBounds_toArray, List.set_cons_zero, List.set_cons_succ]
  refine anyT_takeT (i := 12) rfl (by kernel_rfl) (by kernel_rfl) (by kernel_rfl) (by kernel_rfl) (fun _ _ _ h => h) (yieldsIf_load_mid (by rfl) _ _ rfl _ _ rfl LC _ (fun _ hw => hw.2) Tryz.underlying112 rfl qC.sz) hT (fun _ => trivial) ?_
  simp only [Act.put, List.getElem_toArray, List.getElem_cons_zero, List.getElem_cons_succ, List.setIfInBounds_toArray, List.set_cons_zero, List.set_cons_succ]
  clear hT
  refine anyT_pair (c1 := 6) (c2 := 13) (b1 := 14) (b2 := 15) (d1 := 3) (d2 := 4) (e1 := 20) (e2 := 27) (ty := 112) (Z := Z) (pt := fun g => .pointer (some ⟨g, 0, none⟩)) (v1 := .agg La.toArray) (v2 := .agg Lb.toArray) (by kernel_rfl) (by rfl) hZ.out (fun X hX => ⟨(lad_a (rl.below hX) qX), (lad_c (rl.below hX) qX qA)⟩) ?_ ?_ ?_ ?_ ?_
  · intro u1 u2 X hX
    clear hX
    refine wpOp_step rfl (fun K hK => ?_)
    replace hK : Hid _ := hK
    simp only [frP, Act.put, List.getElem_toArray, List.getElem_cons_zero, List.getElem_cons_succ, List.setIfInBounds_toArray, List.set_cons_zero, List.set_cons_succ]
    go_simp
    refine (CP1 _).mono ?_
    rintro e w1 ⟨rfl, b1⟩
    go_wp2_with (fail)
    exact hK.out _ _ ⟨rfl, b1⟩
  · intro u1 u2 X hX
    clear hX
    refine wpOp_step rfl (fun K hK => ?_)
    replace hK : Hid _ := hK
    simp only [frP, Act.put, List.getElem_toArray, List.getElem_cons_zero, List.getElem_cons_succ, List.setIfInBounds_toArray, List.set_cons_zero, List.set_cons_succ]
    go_simp
    refine (CM1 _).mono ?_
    rintro e w1 ⟨rfl, b1⟩
    go_wp2_with (fail)
    exact hK.out _ _ ⟨rfl, b1⟩
  · intro u1 r1 r2 X
    refine wpOp_step rfl (fun K hK => ?_)
    simp only [frP, Act.put, List.getElem_toArray, List.getElem_cons_zero, List.getElem_cons_succ, List.setIfInBounds_toArray, List.set_cons_zero, List.set_cons_succ]
    go_simp
    exact hK _ _ ⟨rfl, rfl⟩
  · intro u1 r1 r2 X
    refine wpOp_step rfl (fun K hK => ?_)
    simp only [frP, Act.put, List.getElem_toArray, List.getElem_cons_zero, List.getElem_cons_succ, List.setIfInBounds_toArray, List.set_cons_zero, List.set_cons_succ]
    go_simp
    exact hK _ _ ⟨rfl, rfl⟩
  intro wx2 Ga Gb hX m1 m2 hg
  simp only [frP, Act.put, List.setIfInBounds_toArray, List.set_cons_zero, List.set_cons_succ]
  have hlow := bel.size
  have l1 := m1.lt
  have l2 := m2.lt
  have lt_rl := rl.lt
  have lt_rr := rr.lt
  replace rl := rl.below hX
  replace rr := rr.below hX
  replace bel := below_on bel hX
  replace m1 := m1.rowL.low hlow
  replace m2 := m2.rowL.low hlow
  have th := m1.there (o := 0) (m := La.toArray.size) (by simp [qa.len])
  have pp := m1.putAll (B := La) (by rw [qa.len, uV_length])
  replace rl := rl.kept pp.2 (by omega)
  replace rr := rr.kept pp.2 (by omega)
  replace bel := bel.grown pp.2 bel.size (fun k hk => by cases hk; omega)
  replace m2 := m2.kept pp.2 (by omega)
  have ra := pp.1
  clear m1 pp
  refine anyT_one (i := 16) (by kernel_rfl) rfl (fun K hK => ?_)
  refine wp_store_mid 112 _ _ rfl Ga 0 La.toArray rfl rfl th qa.sz2 (all_oneCell_toArray qa.one) ?_
  (try dsimp only)
  refine hK.out _ _ ⟨(lad_a rl qX), (lad_c rl qX qA)⟩ (fun _ => trivial) ?_
  clear hK K th
  generalize wx2.setCells Ga 0 La = wq3 at rl rr ra m2 bel ⊢
  have th := m2.there (o := 0) (m := Lb.toArray.size) (by simp [qb.len])
  have pp := m2.putAll (B := Lb) (by rw [qb.len, uV_length])
  replace rl := rl.kept pp.2 (by omega)
  replace rr := rr.kept pp.2 (by omega)
  replace ra := ra.kept pp.2 (by omega)
  replace bel := bel.grown pp.2 bel.size (fun k hk => by cases hk; omega)
  have rb := pp.1
  clear m2 pp
  refine anyT_one (i := 17) (by kernel_rfl) rfl (fun K hK => ?_)
  refine wp_store_mid 112 _ _ rfl Gb 0 Lb.toArray rfl rfl th qb.sz2 (all_oneCell_toArray qb.one) ?_
  (try dsimp only)
  refine hK.out _ _ ⟨(lad_a rl qX), (lad_c rl qX qA)⟩ (fun _ => trivial) ?_
  clear hK K th
  refine anyT_done (by kernel_rfl) ?_ _
  refine NoPanic.normal ?_
  generalize wq3.setCells Gb 0 Lb = wq4 at rl rr ra rb bel ⊢
  have ob : Ga ≠ Gb := hg
  have za : w.heap.size < Ga := by omega
  have zb : w.heap.size < Gb := by omega
  clear hg hlow l1 l2 lt_rl lt_rr
  go_wp2_with (fail)
  have hd0 : Below wq4.heap.size wq4 wq4.drew := (Below.refl _ _).drew
  refine wp_region_noPanic ?_
  refine wp_region_T 99 (fun X => X.rangeAt Ga 0 La ∧ X.rangeAt Gb 0 Lb) (fun _ => True) (by kernel_rfl) ?_
  generalize wq4.drew = W5 at hd0 ⊢
  replace rl := rl.below hd0
  replace rr := rr.below hd0
  replace ra := ra.below hd0
  replace rb := rb.below hd0
  replace bel := below_on bel hd0
  clear hd0
  have hT : W5.rangeAt Ga 0 La ∧ W5.rangeAt Gb 0 Lb := ⟨ra.all, rb.all⟩
  refine anyT_takeT (i := 0) rfl (by kernel_rfl) (by kernel_rfl) (by kernel_rfl) (by kernel_rfl) (fun _ _ _ h => h) (yieldsIf_load_mid (by rfl) _ _ rfl _ _ rfl La _ (fun _ hw => hw.1) Tryz.underlying112 rfl qa.sz) hT (fun _ => trivial) ?_
  simp only [Act.put, List.getElem_toArray, List.getElem_cons_zero, List.setIfInBounds_toArray]
  refine anyT_takeT (i := 1) rfl (by kernel_rfl) (by kernel_rfl) (by kernel_rfl) (by kernel_rfl) (fun _ _ _ h => h) (yieldsIf_load_mid (by rfl) _ _ rfl _ _ rfl La _ (fun _ hw => hw.1) Tryz.underlying112 rfl qa.sz) hT (fun _ => trivial) ?_
  simp only [Act.put, List.getElem_toArray, List.getElem_cons_zero, List.getElem_cons_succ, List.setIfInBounds_toArray, List.set_cons_zero, List.set_cons_succ]
  refine anyT_takeT (i := 3) rfl (by kernel_rfl) (by kernel_rfl) (by kernel_rfl) (by kernel_rfl) (fun _ _ _ h => h) (yieldsIf_load_mid (by rfl) _ _ rfl _ _ rfl Lb _ (fun _ hw => hw.2) Tryz.underlying112 rfl qb.sz) hT (fun _ => trivial) ?_
  simp only [Act.put, List.getElem_toArray, List.getElem_cons_zero, List.getElem_cons_succ, List.setIfInBounds_toArray, List.set_cons_zero, List.set_cons_succ]
  refine anyT_takeT (i := 4) rfl (by kernel_rfl) (by kernel_rfl) (by kernel_rfl) (by kernel_rfl) (fun _ _ _ h => h) (yieldsIf_load_mid (by rfl) _ _ rfl _ _ rfl Lb _ (fun _ hw => hw.2) Tryz.underlying112 rfl qb.sz) hT (fun _ => trivial) ?_
  simp only [Act.put, List.getElem_toArray, List.getElem_cons_zero, List.getElem_cons_succ, List.setIfInBounds_toArray, List.set_cons_zero, List.set_cons_succ]
  clear hT
  refine anyT_pair (c1 := 2) (c2 := 5) (b1 := 6) (b2 := 7) (d1 := 5) (d2 := 6) (e1 := 30) (e2 := 33) (ty := 112) (Z := Z) (pt := fun g => .pointer (some ⟨g, 0, none⟩)) (v1 := .agg Laa.toArray) (v2 := .agg Lbb.toArray) (by kernel_rfl) (by rfl) hZ.out (fun X hX => ⟨(ra.below hX).all, (rb.below hX).all⟩) ?_ ?_ ?_ ?_ ?_
  · intro u1 u2 X hX
    clear hX
    refine wpOp_step rfl (fun K hK => ?_)
    replace hK : Hid _ := hK
    simp only [frP, Act.put, List.getElem_toArray, List.getElem_cons_zero, List.getElem_cons_succ, List.setIfInBounds_toArray, List.set_cons_zero, List.set_cons_succ]
    go_simp
    refine (CT1 _).mono ?_
    rintro e w1 ⟨rfl, b1⟩
    go_wp2_with (fail)
    exact hK.out _ _ ⟨rfl, b1⟩
  · intro u1 u2 X hX
    clear hX
    refine wpOp_step rfl (fun K hK => ?_)
    replace hK : Hid _ := hK
    simp only [frP, Act.put, List.getElem_toArray, List.getElem_cons_zero, List.getElem_cons_succ, List.setIfInBounds_toArray, List.set_cons_zero, List.set_cons_succ]
    go_simp
    refine (CT2 _).mono ?_
    rintro e w1 ⟨rfl, b1⟩
    go_wp2_with (fail)
    exact hK.out _ _ ⟨rfl, b1⟩
  · intro u1 r1 r2 X
    refine wpOp_step rfl (fun K hK => ?_)
    simp only [frP, Act.put, List.getElem_toArray, List.getElem_cons_zero, List.getElem_cons_succ, List.setIfInBounds_toArray, List.set_cons_zero, List.set_cons_succ]
    go_simp
    exact hK _ _ ⟨rfl, rfl⟩
  · intro u1 r1 r2 X
    refine wpOp_step rfl (fun K hK => ?_)
    simp only [frP, Act.put, List.getElem_toArray, List.getElem_cons_zero, List.getElem_cons_succ, List.setIfInBounds_toArray, List.set_cons_zero, List.set_cons_succ]
    go_simp
    exact hK _ _ ⟨rfl, rfl⟩
  intro wx6 Gaa Gbb hX m1 m2 hg
  simp only [frP, Act.put, List.setIfInBounds_toArray, List.set_cons_zero, List.set_cons_succ]
  have hlow := bel.size
  have l1 := m1.lt
  have l2 := m2.lt
  have lt_rl := rl.lt
  have lt_rr := rr.lt
  have lt_ra := ra.lt
  have lt_rb := rb.lt
  replace rl := rl.below hX
  replace rr := rr.below hX
  replace ra := ra.below hX
  replace rb := rb.below hX
  replace bel := below_on bel hX
  replace m1 := m1.rowL.low hlow
  replace m2 := m2.rowL.low hlow
  have th := m1.there (o := 0) (m := Laa.toArray.size) (by simp [qaa.len])
  have pp := m1.putAll (B := Laa) (by rw [qaa.len, uV_length])
  replace rl := rl.kept pp.2 (by omega)
  replace rr := rr.kept pp.2 (by omega)
  replace ra := ra.kept pp.2 (by omega)
  replace rb := rb.kept pp.2 (by omega)
  replace bel := bel.grown pp.2 bel.size (fun k hk => by cases hk; omega)
  replace m2 := m2.kept pp.2 (by omega)
  have raa := pp.1
  clear m1 pp
  refine anyT_one (i := 8) (by kernel_rfl) rfl (fun K hK => ?_)
  refine wp_store_mid 112 _ _ rfl Gaa 0 Laa.toArray rfl rfl th qaa.sz2 (all_oneCell_toArray qaa.one) ?_
  (try dsimp only)
  refine hK.out _ _ ⟨ra.all, rb.all⟩ (fun _ => trivial) ?_
  clear hK K th
  generalize wx6.setCells Gaa 0 Laa = wq7 at rl rr ra rb raa m2 bel ⊢
  have th := m2.there (o := 0) (m := Lbb.toArray.size) (by simp [qbb.len])
  have pp := m2.putAll (B := Lbb) (by rw [qbb.len, uV_length])
  replace rl := rl.kept pp.2 (by omega)
  replace rr := rr.kept pp.2 (by omega)
  replace ra := ra.kept pp.2 (by omega)
  replace rb := rb.kept pp.2 (by omega)
  replace raa := raa.kept pp.2 (by omega)
  replace bel := bel.grown pp.2 bel.size (fun k hk => by cases hk; omega)
  have rbb := pp.1
  clear m2 pp
  refine anyT_one (i := 9) (by kernel_rfl) rfl (fun K hK => ?_)
  refine wp_store_mid 112 _ _ rfl Gbb 0 Lbb.toArray rfl rfl th qbb.sz2 (all_oneCell_toArray qbb.one) ?_
  (try dsimp only)
  refine hK.out _ _ ⟨ra.all, rb.all⟩ (fun _ => trivial) ?_
  clear hK K th
  refine anyT_done (by kernel_rfl) ?_ _
  refine NoPanic.normal ?_
  generalize wq7.setCells Gbb 0 Lbb = wq8 at rl rr ra rb raa rbb bel ⊢
  have obb : Gaa ≠ Gbb := hg
  have zaa : w.heap.size < Gaa := by omega
  have zbb : w.heap.size < Gbb := by omega
  clear hg hlow l1 l2 lt_rl lt_rr lt_ra lt_rb
  have q0 := raa.all
  have q1 := rbb.all
  go_wp2_with (first | (with_reducible refine wpList_load_mid rfl 112 _ rfl Gaa 0 rfl Laa _ q0 Tryz.underlying112 rfl qaa.sz ?_) | (with_reducible refine wpList_load_mid rfl 112 _ rfl Gbb 0 rfl Lbb _ q1 Tryz.underlying112 rfl qbb.sz ?_))
  clear q0 q1
  refine (CM2 _).mono ?_
  rintro e wk1 ⟨rfl, bk⟩
  replace rl := rl.below bk
  replace rr := rr.below bk
  replace ra := ra.below bk
  replace rb := rb.below bk
  replace raa := raa.below bk
  replace rbb := rbb.below bk
  replace bel := below_on bel bk
  have m1 := RowL.made (L := uV (fun _ => 0) 4) wk1 112 4 w.heap.size (uV_length _ _) (by decide) bel.size
  rw [← hZ.out] at m1
  have b2 : Below wk1.heap.size wk1 (wk1.alloc (.cells Z 112)) := (Below.refl _ _).alloc (Nat.le_refl _) _
  have lt_rl := rl.lt
  have lt_rr := rr.lt
  have lt_ra := ra.lt
  have lt_rb := rb.lt
  have lt_raa := raa.lt
  have lt_rbb := rbb.lt
  replace rl := rl.below b2
  replace rr := rr.below b2
  replace ra := ra.below b2
  replace rb := rb.below b2
  replace raa := raa.below b2
  replace rbb := rbb.below b2
  replace bel := below_on bel b2
  have th := m1.there (o := 0) (m := Le.toArray.size) (by simp [qe.len])
  have pp := m1.putAll (B := Le) (by rw [qe.len, uV_length])
  replace rl := rl.kept pp.2 (by omega)
  replace rr := rr.kept pp.2 (by omega)
  replace ra := ra.kept pp.2 (by omega)
  replace rb := rb.kept pp.2 (by omega)
  replace raa := raa.kept pp.2 (by omega)
  replace rbb := rbb.kept pp.2 (by omega)
  replace bel := bel.grown pp.2 bel.size (fun k hk => by cases hk; omega)
  have re := pp.1
  have ze : w.heap.size < wk1.heap.size := by omega
  clear m1 pp b2 bk lt_rl lt_rr lt_ra lt_rb lt_raa lt_rbb
  go_wp2_with (first | (with_reducible refine wpList_store_mid rfl 112 _ _ rfl wk1.heap.size 0 Le.toArray rfl rfl th qe.sz2 (all_oneCell_toArray qe.one) ?_; (try dsimp only)))
  clear th
  generalize (wk1.alloc (.cells Z 112)).setCells wk1.heap.size 0 Le = wq9 at rl rr ra rb raa rbb re bel ⊢
  generalize wk1.heap.size = Ge at re ze ⊢
  have hd0 : Below wq9.heap.size wq9 wq9.drew := (Below.refl _ _).drew
  refine wp_region_noPanic ?_
  refine wp_region_T 99 (fun X => X.rangeAt w.heap.size 12 LB ∧ X.rangeAt w.heap.size 16 LD) (fun _ => True) (by kernel_rfl) ?_
  generalize wq9.drew = W10 at hd0 ⊢
  replace rl := rl.below hd0
  replace rr := rr.below hd0
  replace ra := ra.below hd0
  replace rb := rb.below hd0
  replace raa := raa.below hd0
  replace rbb := rbb.below hd0
  replace re := re.below hd0
  replace bel := below_on bel hd0
  clear hd0
  have hT : W10.rangeAt w.heap.size 12 LB ∧ W10.rangeAt w.heap.size 16 LD := ⟨(lad_b rl qX qA qC), (lad_d rl qX qA qC qB)⟩
  refine anyT_takeT (i := 0) (v := .pointer (some ⟨w.heap.size, 12, none⟩)) rfl (by kernel_rfl) (by kernel_rfl) (by kernel_rfl) (by kernel_rfl) (fun _ _ _ h => h) (Or.inl ⟨by rfl, fun X hSw => by ((try dsimp only at hSw); go_simp)⟩) hT (fun _ => trivial) ?_
  simp only [Act.put, List.getElem_toArray, List.getElem_cons_zero, List.setIfInBounds_toArray, List.set_cons_zero, List.set_cons_succ]
  refine anyT_takeT (i := 1) (v := .pointer (some ⟨w.heap.size, 12, none⟩)) rfl (by kernel_rfl) (by kernel_rfl) (by kernel_rfl) (by kernel_rfl) (fun _ _ _ h => h) (Or.inl ⟨by rfl, fun X hSw => by ((try dsimp only at hSw); go_simp)⟩) hT (fun _ => trivial) ?_
  simp only [Act.put, List.getElem_toArray, List.getElem_cons_zero, List.getElem_cons_succ, List.setIfInBounds_toArray, List.set_cons_zero, List.set_cons_succ]
  refine anyT_takeT (i := 2) rfl (by kernel_rfl) (by kernel_rfl) (by kernel_rfl) (by kernel_rfl) (fun _ _ _ h => h) (yieldsIf_load_mid (by rfl) _ _ rfl _ _ rfl LB _ (fun _ hw => hw.1) Tryz.underlying112 rfl qB.sz) hT (fun _ => trivial) ?_
  simp only [Act.put, List.getElem_toArray, List.getElem_cons_zero, List.getElem_cons_succ, List.setIfInBounds_toArray, List.set_cons_zero, List.set_cons_succ]
  refine anyT_takeT (i := 3) (v := .pointer (some ⟨w.heap.size, 12, none⟩)) rfl (by kernel_rfl) (by kernel_rfl) (by kernel_rfl) (by kernel_rfl) (fun _ _ _ h => h) (Or.inl ⟨by rfl, fun X hSw => by ((try dsimp only at hSw); go_simp)⟩) hT (fun _ => trivial) ?_
  simp only [Act.put, List.getElem_toArray, List.getElem_cons_zero, List.getElem_cons_succ, List.setIfInBounds_toArray, List.set_cons_zero, List.set_cons_succ]
  refine anyT_takeT (i := 4) (v := .pointer (some ⟨w.heap.size, 16, none⟩)) rfl (by kernel_rfl) (by kernel_rfl) (by kernel_rfl) (by kernel_rfl) (fun _ _ _ h => h) (Or.inl ⟨by rfl, fun X hSw => by ((try dsimp only at hSw); go_simp)⟩) hT (fun _ => trivial) ?_
  simp only [Act.put, List.getElem_toArray, List.getElem_cons_zero, List.getElem_cons_succ, List.setIfInBounds_toArray, List.set_cons_zero, List.set_cons_succ]
  refine anyT_takeT (i := 5) rfl (by kernel_rfl) (by kernel_rfl) (by kernel_rfl) (by kernel_rfl) (fun _ _ _ h => h) (yieldsIf_load_mid (by rfl) _ _ rfl _ _ rfl LD _ (fun _ hw => hw.2) Tryz.underlying112 rfl qD.sz) hT (fun _ => trivial) ?_
  simp only [Act.put, List.getElem_toArray, List.getElem_cons_zero, List.getElem_cons_succ, List.setIfInBounds_toArray, List.set_cons_zero, List.set_cons_succ]
  refine anyT_takeT (i := 7) (v := .pointer (some ⟨w.heap.size, 12, none⟩)) rfl (by kernel_rfl) (by kernel_rfl) (by kernel_rfl) (by kernel_rfl) (fun _ _ _ h => h) (Or.inl ⟨by rfl, fun X hSw => by ((try dsimp only at hSw); go_simp)⟩) hT (fun _ => trivial) ?_
  simp only [Act.put, List.getElem_toArray, List.getElem_cons_zero, List.getElem_cons_succ, List.setIfInBounds_toArray, List.set_cons_zero, List.set_cons_succ]
  refine anyT_takeT (i := 8) (v := .pointer (some ⟨w.heap.size, 12, none⟩)) rfl (by kernel_rfl) (by kernel_rfl) (by kernel_rfl) (by kernel_rfl) (fun _ _ _ h => h) (Or.inl ⟨by rfl, fun X hSw => by ((try dsimp only at hSw); go_simp)⟩) hT (fun _ => trivial) ?_
  simp only [Act.put, List.getElem_toArray, List.getElem_cons_zero, List.getElem_cons_succ, List.setIfInBounds_toArray, List.set_cons_zero, List.set_cons_succ]
  refine anyT_takeT (i := 9) rfl (by kernel_rfl) (by kernel_rfl) (by kernel_rfl) (by kernel_rfl) (fun _ _ _ h => h) (yieldsIf_load_mid (by rfl) _ _ rfl _ _ rfl LB _ (fun _ hw => hw.1) Tryz.underlying112 rfl qB.sz) hT (fun _ => trivial) ?_
  simp only [Act.put, List.getElem_toArray, List.getElem_cons_zero, List.getElem_cons_succ, List.setIfInBounds_toArray, List.set_cons_zero, List.set_cons_succ]
  refine anyT_takeT (i := 10) (v := .pointer (some ⟨w.heap.size, 12, none⟩)) rfl (by kernel_rfl) (by kernel_rfl) (by kernel_rfl) (by kernel_rfl) (fun _ _ _ h => h) (Or.inl ⟨by rfl, fun X hSw => by ((try dsimp only at hSw); go_simp)⟩) hT (fun _ => trivial) ?_
  simp only [Act.put, List.getElem_toArray, List.getElem_cons_zero, List.getElem_cons_succ, List.setIfInBounds_toArray, List.set_cons_zero, List.set_cons_succ]
  refine anyT_takeT (i := 11) (v := .pointer (some ⟨w.heap.size, 16, none⟩)) rfl (by kernel_rfl) (by kernel_rfl) (by kernel_rfl) (by kernel_rfl) (fun _ _ _ h => h) (Or.inl ⟨by rfl, fun X hSw => by ((try dsimp only at hSw); go_simp)⟩) hT (fun _ => trivial) ?_
  simp only [Act.put, List.getElem_toArray, List.getElem_cons_zero, List.getElem_cons_succ, List.setIfInBounds_toArray, List.set_cons_zero, List.set_cons_succ]
  refine anyT_takeT (i := 12) rfl (by kernel_rfl) (by kernel_rfl) (by kernel_rfl) (by kernel_rfl) (fun _ _ _ h => h) (yieldsIf_load_mid (by rfl) _ _ rfl _ _ rfl LD _ (fun _ hw => hw.2) Tryz.underlying112 rfl qD.sz) hT (fun _ => trivial) ?_
  simp only [Act.put, List.getElem_toArray, List.getElem_cons_zero, List.getElem_cons_succ, List.setIfInBounds_toArray, List.set_cons_zero, List.set_cons_succ]
  clear hT
  refine anyT_pair (c1 := 6) (c2 := 13) (b1 := 14) (b2 := 15) (d1 := 8) (d2 := 9) (e1 := 43) (e2 := 50) (ty := 112) (Z := Z) (pt := fun g => .pointer (some ⟨g, 0, none⟩)) (v1 := .agg Lc.toArray) (v2 := .agg Ld.toArray) (by kernel_rfl) (by rfl) hZ.out (fun X hX => ⟨(lad_b (rl.below hX) qX qA qC), (lad_d (rl.below hX) qX qA qC qB)⟩) ?_ ?_ ?_ ?_ ?_
  · intro u1 u2 X hX
    clear hX
    refine wpOp_step rfl (fun K hK => ?_)
    replace hK : Hid _ := hK
    simp only [frP, Act.put, List.getElem_toArray, List.getElem_cons_zero, List.getElem_cons_succ, List.setIfInBounds_toArray, List.set_cons_zero, List.set_cons_succ]
    go_simp
    refine (CP2 _).mono ?_
    rintro e w1 ⟨rfl, b1⟩
    go_wp2_with (fail)
    exact hK.out _ _ ⟨rfl, b1⟩
  · intro u1 u2 X hX
    clear hX
    refine wpOp_step rfl (fun K hK => ?_)
    replace hK : Hid _ := hK
    simp only [frP, Act.put, List.getElem_toArray, List.getElem_cons_zero, List.getElem_cons_succ, List.setIfInBounds_toArray, List.set_cons_zero, List.set_cons_succ]
    go_simp
    refine (CM3 _).mono ?_
    rintro e w1 ⟨rfl, b1⟩
    go_wp2_with (fail)
    exact hK.out _ _ ⟨rfl, b1⟩
  · intro u1 r1 r2 X
    refine wpOp_step rfl (fun K hK => ?_)
    simp only [frP, Act.put, List.getElem_toArray, List.getElem_cons_zero, List.getElem_cons_succ, List.setIfInBounds_toArray, List.set_cons_zero, List.set_cons_succ]
    go_simp
    exact hK _ _ ⟨rfl, rfl⟩
  · intro u1 r1 r2 X
    refine wpOp_step rfl (fun K hK => ?_)
    simp only [frP, Act.put, List.getElem_toArray, List.getElem_cons_zero, List.getElem_cons_succ, List.setIfInBounds_toArray, List.set_cons_zero, List.set_cons_succ]
    go_simp
    exact hK _ _ ⟨rfl, rfl⟩
  intro wx11 Gc Gd hX m1 m2 hg
  simp only [frP, Act.put, List.setIfInBounds_toArray, List.set_cons_zero, List.set_cons_succ]
  have hlow := bel.size
  have l1 := m1.lt
  have l2 := m2.lt
  have lt_rl := rl.lt
  have lt_rr := rr.lt
  have lt_ra := ra.lt
  have lt_rb := rb.lt
  have lt_raa := raa.lt
  have lt_rbb := rbb.lt
  have lt_re := re.lt
  replace rl := rl.below hX
  replace rr := rr.below hX
  replace ra := ra.below hX
  replace rb := rb.below hX
  replace raa := raa.below hX
  replace rbb := rbb.below hX
  replace re := re.below hX
  replace bel := below_on bel hX
  replace m1 := m1.rowL.low hlow
  replace m2 := m2.rowL.low hlow
  have th := m1.there (o := 0) (m := Lc.toArray.size) (by simp [qc.len])
  have pp := m1.putAll (B := Lc) (by rw [qc.len, uV_length])
  replace rl := rl.kept pp.2 (by omega)
  replace rr := rr.kept pp.2 (by omega)
  replace ra := ra.kept pp.2 (by omega)
  replace rb := rb.kept pp.2 (by omega)
  replace raa := raa.kept pp.2 (by omega)
  replace rbb := rbb.kept pp.2 (by omega)
  replace re := re.kept pp.2 (by omega)
  replace bel := bel.grown pp.2 bel.size (fun k hk => by cases hk; omega)
  replace m2 := m2.kept pp.2 (by omega)
  have rc := pp.1
  clear m1 pp
  refine anyT_one (i := 16) (by kernel_rfl) rfl (fun K hK => ?_)
  refine wp_store_mid 112 _ _ rfl Gc 0 Lc.toArray rfl rfl th qc.sz2 (all_oneCell_toArray qc.one) ?_
  (try dsimp only)
  refine hK.out _ _ ⟨(lad_b rl qX qA qC), (lad_d rl qX qA qC qB)⟩ (fun _ => trivial) ?_
  clear hK K th
  generalize wx11.setCells Gc 0 Lc = wq12 at rl rr ra rb raa rbb re rc m2 bel ⊢
  have th := m2.there (o := 0) (m := Ld.toArray.size) (by simp [qd.len])
  have pp := m2.putAll (B := Ld) (by rw [qd.len, uV_length])
  replace rl := rl.kept pp.2 (by omega)
  replace rr := rr.kept pp.2 (by omega)
  replace ra := ra.kept pp.2 (by omega)
  replace rb := rb.kept pp.2 (by omega)
  replace raa := raa.kept pp.2 (by omega)
  replace rbb := rbb.kept pp.2 (by omega)
  replace re := re.kept pp.2 (by omega)
  replace rc := rc.kept pp.2 (by omega)
  replace bel := bel.grown pp.2 bel.size (fun k hk => by cases hk; omega)
  have rd := pp.1
  clear m2 pp
  refine anyT_one (i := 17) (by kernel_rfl) rfl (fun K hK => ?_)
  refine wp_store_mid 112 _ _ rfl Gd 0 Ld.toArray rfl rfl th qd.sz2 (all_oneCell_toArray qd.one) ?_
  (try dsimp only)
  refine hK.out _ _ ⟨(lad_b rl qX qA qC), (lad_d rl qX qA qC qB)⟩ (fun _ => trivial) ?_
  clear hK K th
  refine anyT_done (by kernel_rfl) ?_ _
  refine NoPanic.normal ?_
  generalize wq12.setCells Gd 0 Ld = wq13 at rl rr ra rb raa rbb re rc rd bel ⊢
  have od : Gc ≠ Gd := hg
  have zc : w.heap.size < Gc := by omega
  have zd : w.heap.size < Gd := by omega
  clear hg hlow l1 l2 lt_rl lt_rr lt_ra lt_rb lt_raa lt_rbb lt_re
  go_wp2_with (fail)
  have hd0 : Below wq13.heap.size wq13 wq13.drew := (Below.refl _ _).drew
  refine wp_region_noPanic ?_
  refine wp_region_T 99 (fun X => X.rangeAt Gd 0 Ld ∧ X.rangeAt Ga 0 La ∧ X.rangeAt Gc 0 Lc ∧ X.rangeAt Gb 0 Lb) (fun _ => True) (by kernel_rfl) ?_
  generalize wq13.drew = W14 at hd0 ⊢
  replace rl := rl.below hd0
  replace rr := rr.below hd0
  replace ra := ra.below hd0
  replace rb := rb.below hd0
  replace raa := raa.below hd0
  replace rbb := rbb.below hd0
  replace re := re.below hd0
  replace rc := rc.below hd0
  replace rd := rd.below hd0
  replace bel := below_on bel hd0
  clear hd0
  have hT : W14.rangeAt Gd 0 Ld ∧ W14.rangeAt Ga 0 La ∧ W14.rangeAt Gc 0 Lc ∧ W14.rangeAt Gb 0 Lb := ⟨rd.all, ra.all, rc.all, rb.all⟩
  refine anyT_takeT (i := 0) rfl (by kernel_rfl) (by kernel_rfl) (by kernel_rfl) (by kernel_rfl) (fun _ _ _ h => h) (yieldsIf_load_mid (by rfl) _ _ rfl _ _ rfl Ld _ (fun _ hw => hw.1) Tryz.underlying112 rfl qd.sz) hT (fun _ => trivial) ?_
  simp only [Act.put, List.getElem_toArray, List.getElem_cons_zero, List.setIfInBounds_toArray]
  refine anyT_takeT (i := 1) rfl (by kernel_rfl) (by kernel_rfl) (by kernel_rfl) (by kernel_rfl) (fun _ _ _ h => h) (yieldsIf_load_mid (by rfl) _ _ rfl _ _ rfl La _ (fun _ hw => hw.2.1) Tryz.underlying112 rfl qa.sz) hT (fun _ => trivial) ?_
  simp only [Act.put, List.getElem_toArray, List.getElem_cons_zero, List.getElem_cons_succ, List.setIfInBounds_toArray, List.set_cons_zero, List.set_cons_succ]
  refine anyT_takeT (i := 3) rfl (by kernel_rfl) (by kernel_rfl) (by kernel_rfl) (by kernel_rfl) (fun _ _ _ h => h) (yieldsIf_load_mid (by rfl) _ _ rfl _ _ rfl Lc _ (fun _ hw => hw.2.2.1) Tryz.underlying112 rfl qc.sz) hT (fun _ => trivial) ?_
  simp only [Act.put, List.getElem_toArray, List.getElem_cons_zero, List.getElem_cons_succ, List.setIfInBounds_toArray, List.set_cons_zero, List.set_cons_succ]
  refine anyT_takeT (i := 4) rfl (by kernel_rfl) (by kernel_rfl) (by kernel_rfl) (by kernel_rfl) (fun _ _ _ h => h) (yieldsIf_load_mid (by rfl) _ _ rfl _ _ rfl Lb _ (fun _ hw => hw.2.2.2) Tryz.underlying112 rfl qb.sz) hT (fun _ => trivial) ?_
  simp only [Act.put, List.getElem_toArray, List.getElem_cons_zero, List.getElem_cons_succ, List.setIfInBounds_toArray, List.set_cons_zero, List.set_cons_succ]
  clear hT
  refine anyT_pair (c1 := 2) (c2 := 5) (b1 := 6) (b2 := 7) (d1 := 10) (d2 := 11) (e1 := 53) (e2 := 56) (ty := 112) (Z := Z) (pt := fun g => .pointer (some ⟨g, 0, none⟩)) (v1 := .agg Lda.toArray) (v2 := .agg Lcb.toArray) (by kernel_rfl) (by rfl) hZ.out (fun X hX => ⟨(rd.below hX).all, (ra.below hX).all, (rc.below hX).all, (rb.below hX).all⟩) ?_ ?_ ?_ ?_ ?_
  · intro u1 u2 X hX
    clear hX
    refine wpOp_step rfl (fun K hK => ?_)
    replace hK : Hid _ := hK
    simp only [frP, Act.put, List.getElem_toArray, List.getElem_cons_zero, List.getElem_cons_succ, List.setIfInBounds_toArray, List.set_cons_zero, List.set_cons_succ]
    go_simp
    refine (CT3 _).mono ?_
    rintro e w1 ⟨rfl, b1⟩
    go_wp2_with (fail)
    exact hK.out _ _ ⟨rfl, b1⟩
  · intro u1 u2 X hX
    clear hX
    refine wpOp_step rfl (fun K hK => ?_)
    replace hK : Hid _ := hK
    simp only [frP, Act.put, List.getElem_toArray, List.getElem_cons_zero, List.getElem_cons_succ, List.setIfInBounds_toArray, List.set_cons_zero, List.set_cons_succ]
    go_simp
    refine (CT4 _).mono ?_
    rintro e w1 ⟨rfl, b1⟩
    go_wp2_with (fail)
    exact hK.out _ _ ⟨rfl, b1⟩
  · intro u1 r1 r2 X
    refine wpOp_step rfl (fun K hK => ?_)
    simp only [frP, Act.put, List.getElem_toArray, List.getElem_cons_zero, List.getElem_cons_succ, List.setIfInBounds_toArray, List.set_cons_zero, List.set_cons_succ]
    go_simp
    exact hK _ _ ⟨rfl, rfl⟩
  · intro u1 r1 r2 X
    refine wpOp_step rfl (fun K hK => ?_)
    simp only [frP, Act.put, List.getElem_toArray, List.getElem_cons_zero, List.getElem_cons_succ, List.setIfInBounds_toArray, List.set_cons_zero, List.set_cons_succ]
    go_simp
    exact hK _ _ ⟨rfl, rfl⟩
  intro wx15 Gda Gcb hX m1 m2 hg
  simp only [frP, Act.put, List.setIfInBounds_toArray, List.set_cons_zero, List.set_cons_succ]
  have hlow := bel.size
  have l1 := m1.lt
  have l2 := m2.lt
  have lt_rl := rl.lt
  have lt_rr := rr.lt
  have lt_ra := ra.lt
  have lt_rb := rb.lt
  have lt_raa := raa.lt
  have lt_rbb := rbb.lt
  have lt_re := re.lt
  have lt_rc := rc.lt
  have lt_rd := rd.lt
  replace rl := rl.below hX
  replace rr := rr.below hX
  replace ra := ra.below hX
  replace rb := rb.below hX
  replace raa := raa.below hX
  replace rbb := rbb.below hX
  replace re := re.below hX
  replace rc := rc.below hX
  replace rd := rd.below hX
  replace bel := below_on bel hX
  replace m1 := m1.rowL.low hlow
  replace m2 := m2.rowL.low hlow
  have th := m1.there (o := 0) (m := Lda.toArray.size) (by simp [qda.len])
  have pp := m1.putAll (B := Lda) (by rw [qda.len, uV_length])
  replace rl := rl.kept pp.2 (by omega)
  replace rr := rr.kept pp.2 (by omega)
  replace ra := ra.kept pp.2 (by omega)
  replace rb := rb.kept pp.2 (by omega)
  replace raa := raa.kept pp.2 (by omega)
  replace rbb := rbb.kept pp.2 (by omega)
  replace re := re.kept pp.2 (by omega)
  replace rc := rc.kept pp.2 (by omega)
  replace rd := rd.kept pp.2 (by omega)
  replace bel := bel.grown pp.2 bel.size (fun k hk => by cases hk; omega)
  replace m2 := m2.kept pp.2 (by omega)
  have rda := pp.1
  clear m1 pp
  refine anyT_one (i := 8) (by kernel_rfl) rfl (fun K hK => ?_)
  refine wp_store_mid 112 _ _ rfl Gda 0 Lda.toArray rfl rfl th qda.sz2 (all_oneCell_toArray qda.one) ?_
  (try dsimp only)
  refine hK.out _ _ ⟨rd.all, ra.all, rc.all, rb.all⟩ (fun _ => trivial) ?_
  clear hK K th
  generalize wx15.setCells Gda 0 Lda = wq16 at rl rr ra rb raa rbb re rc rd rda m2 bel ⊢
  have th := m2.there (o := 0) (m := Lcb.toArray.size) (by simp [qcb.len])
  have pp := m2.putAll (B := Lcb) (by rw [qcb.len, uV_length])
  replace rl := rl.kept pp.2 (by omega)
  replace rr := rr.kept pp.2 (by omega)
  replace ra := ra.kept pp.2 (by omega)
  replace rb := rb.kept pp.2 (by omega)
  replace raa := raa.kept pp.2 (by omega)
  replace rbb := rbb.kept pp.2 (by omega)
  replace re := re.kept pp.2 (by omega)
  replace rc := rc.kept pp.2 (by omega)
  replace rd := rd.kept pp.2 (by omega)
  replace rda := rda.kept pp.2 (by omega)
  replace bel := bel.grown pp.2 bel.size (fun k hk => by cases hk; omega)
  have rcb := pp.1
  clear m2 pp
  refine anyT_one (i := 9) (by kernel_rfl) rfl (fun K hK => ?_)
  refine wp_store_mid 112 _ _ rfl Gcb 0 Lcb.toArray rfl rfl th qcb.sz2 (all_oneCell_toArray qcb.one) ?_
  (try dsimp only)
  refine hK.out _ _ ⟨rd.all, ra.all, rc.all, rb.all⟩ (fun _ => trivial) ?_
  clear hK K th
  refine anyT_done (by kernel_rfl) ?_ _
  refine NoPanic.normal ?_
  generalize wq16.setCells Gcb 0 Lcb = wq17 at rl rr ra rb raa rbb re rc rd rda rcb bel ⊢
  have ocb : Gda ≠ Gcb := hg
  have zda : w.heap.size < Gda := by omega
  have zcb : w.heap.size < Gcb := by omega
  clear hg hlow l1 l2 lt_rl lt_rr lt_ra lt_rb lt_raa lt_rbb lt_re lt_rc lt_rd
  clear ra rb rc rd
  go_wp2_with (fail)
  have hd0 : Below wq17.heap.size wq17 wq17.drew := (Below.refl _ _).drew
  refine wp_region_noPanic ?_
  refine wp_region_T 99 (fun X => X.rangeAt Gda 0 Lda ∧ X.rangeAt Gcb 0 Lcb) (fun _ => True) (by kernel_rfl) ?_
  generalize wq17.drew = W18 at hd0 ⊢
  replace rl := rl.below hd0
  replace rr := rr.below hd0
  replace raa := raa.below hd0
  replace rbb := rbb.below hd0
  replace re := re.below hd0
  replace rda := rda.below hd0
  replace rcb := rcb.below hd0
  replace bel := below_on bel hd0
  clear hd0
  have hT : W18.rangeAt Gda 0 Lda ∧ W18.rangeAt Gcb 0 Lcb := ⟨rda.all, rcb.all⟩
  refine anyT_takeT (i := 0) rfl (by kernel_rfl) (by kernel_rfl) (by kernel_rfl) (by kernel_rfl) (fun _ _ _ h => h) (yieldsIf_load_mid (by rfl) _ _ rfl _ _ rfl Lda _ (fun _ hw => hw.1) Tryz.underlying112 rfl qda.sz) hT (fun _ => trivial) ?_
  simp only [Act.put, List.getElem_toArray, List.getElem_cons_zero, List.setIfInBounds_toArray]
  refine anyT_takeT (i := 1) rfl (by kernel_rfl) (by kernel_rfl) (by kernel_rfl) (by kernel_rfl) (fun _ _ _ h => h) (yieldsIf_load_mid (by rfl) _ _ rfl _ _ rfl Lcb _ (fun _ hw => hw.2) Tryz.underlying112 rfl qcb.sz) hT (fun _ => trivial) ?_
  simp only [Act.put, List.getElem_toArray, List.getElem_cons_zero, List.getElem_cons_succ, List.setIfInBounds_toArray, List.set_cons_zero, List.set_cons_succ]
  refine anyT_takeT (i := 3) rfl (by kernel_rfl) (by kernel_rfl) (by kernel_rfl) (by kernel_rfl) (fun _ _ _ h => h) (yieldsIf_load_mid (by rfl) _ _ rfl _ _ rfl Lda _ (fun _ hw => hw.1) Tryz.underlying112 rfl qda.sz) hT (fun _ => trivial) ?_
  simp only [Act.put, List.getElem_toArray, List.getElem_cons_zero, List.getElem_cons_succ, List.setIfInBounds_toArray, List.set_cons_zero, List.set_cons_succ]
  refine anyT_takeT (i := 4) rfl (by kernel_rfl) (by kernel_rfl) (by kernel_rfl) (by kernel_rfl) (fun _ _ _ h => h) (yieldsIf_load_mid (by rfl) _ _ rfl _ _ rfl Lcb _ (fun _ hw => hw.2) Tryz.underlying112 rfl qcb.sz) hT (fun _ => trivial) ?_
  simp only [Act.put, List.getElem_toArray, List.getElem_cons_zero, List.getElem_cons_succ, List.setIfInBounds_toArray, List.set_cons_zero, List.set_cons_succ]
  clear hT
  refine anyT_pair (c1 := 2) (c2 := 5) (b1 := 6) (b2 := 7) (d1 := 12) (d2 := 13) (e1 := 59) (e2 := 62) (ty := 112) (Z := Z) (pt := fun g => .pointer (some ⟨g, 0, none⟩)) (v1 := .agg Lboth.toArray) (v2 := .agg Lbet.toArray) (by kernel_rfl) (by rfl) hZ.out (fun X hX => ⟨(rda.below hX).all, (rcb.below hX).all⟩) ?_ ?_ ?_ ?_ ?_
  · intro u1 u2 X hX
    clear hX
    refine wpOp_step rfl (fun K hK => ?_)
    replace hK : Hid _ := hK
    simp only [frP, Act.put, List.getElem_toArray, List.getElem_cons_zero, List.getElem_cons_succ, List.setIfInBounds_toArray, List.set_cons_zero, List.set_cons_succ]
    go_simp
    refine (CP3 _).mono ?_
    rintro e w1 ⟨rfl, b1⟩
    go_wp2_with (fail)
    exact hK.out _ _ ⟨rfl, b1⟩
  · intro u1 u2 X hX
    clear hX
    refine wpOp_step rfl (fun K hK => ?_)
    replace hK : Hid _ := hK
    simp only [frP, Act.put, List.getElem_toArray, List.getElem_cons_zero, List.getElem_cons_succ, List.setIfInBounds_toArray, List.set_cons_zero, List.set_cons_succ]
    go_simp
    refine (CM4 _).mono ?_
    rintro e w1 ⟨rfl, b1⟩
    go_wp2_with (fail)
    exact hK.out _ _ ⟨rfl, b1⟩
  · intro u1 r1 r2 X
    refine wpOp_step rfl (fun K hK => ?_)
    simp only [frP, Act.put, List.getElem_toArray, List.getElem_cons_zero, List.getElem_cons_succ, List.setIfInBounds_toArray, List.set_cons_zero, List.set_cons_succ]
    go_simp
    exact hK _ _ ⟨rfl, rfl⟩
  · intro u1 r1 r2 X
    refine wpOp_step rfl (fun K hK => ?_)
    simp only [frP, Act.put, List.getElem_toArray, List.getElem_cons_zero, List.getElem_cons_succ, List.setIfInBounds_toArray, List.set_cons_zero, List.set_cons_succ]
    go_simp
    exact hK _ _ ⟨rfl, rfl⟩
  intro wx19 Gboth Gbet hX m1 m2 hg
  simp only [frP, Act.put, List.setIfInBounds_toArray, List.set_cons_zero, List.set_cons_succ]
  have hlow := bel.size
  have l1 := m1.lt
  have l2 := m2.lt
  have lt_rl := rl.lt
  have lt_rr := rr.lt
  have lt_raa := raa.lt
  have lt_rbb := rbb.lt
  have lt_re := re.lt
  have lt_rda := rda.lt
  have lt_rcb := rcb.lt
  replace rl := rl.below hX
  replace rr := rr.below hX
  replace raa := raa.below hX
  replace rbb := rbb.below hX
  replace re := re.below hX
  replace rda := rda.below hX
  replace rcb := rcb.below hX
  replace bel := below_on bel hX
  replace m1 := m1.rowL.low hlow
  replace m2 := m2.rowL.low hlow
  have th := m1.there (o := 0) (m := Lboth.toArray.size) (by simp [qboth.len])
  have pp := m1.putAll (B := Lboth) (by rw [qboth.len, uV_length])
  replace rl := rl.kept pp.2 (by omega)
  replace rr := rr.kept pp.2 (by omega)
  replace raa := raa.kept pp.2 (by omega)
  replace rbb := rbb.kept pp.2 (by omega)
  replace re := re.kept pp.2 (by omega)
  replace rda := rda.kept pp.2 (by omega)
  replace rcb := rcb.kept pp.2 (by omega)
  replace bel := bel.grown pp.2 bel.size (fun k hk => by cases hk; omega)
  replace m2 := m2.kept pp.2 (by omega)
  have rboth := pp.1
  clear m1 pp
  refine anyT_one (i := 8) (by kernel_rfl) rfl (fun K hK => ?_)
  refine wp_store_mid 112 _ _ rfl Gboth 0 Lboth.toArray rfl rfl th qboth.sz2 (all_oneCell_toArray qboth.one) ?_
  (try dsimp only)
  refine hK.out _ _ ⟨rda.all, rcb.all⟩ (fun _ => trivial) ?_
  clear hK K th
  generalize wx19.setCells Gboth 0 Lboth = wq20 at rl rr raa rbb re rda rcb rboth m2 bel ⊢
  have th := m2.there (o := 0) (m := Lbet.toArray.size) (by simp [qbet.len])
  have pp := m2.putAll (B := Lbet) (by rw [qbet.len, uV_length])
  replace rl := rl.kept pp.2 (by omega)
  replace rr := rr.kept pp.2 (by omega)
  replace raa := raa.kept pp.2 (by omega)
  replace rbb := rbb.kept pp.2 (by omega)
  replace re := re.kept pp.2 (by omega)
  replace rda := rda.kept pp.2 (by omega)
  replace rcb := rcb.kept pp.2 (by omega)
  replace rboth := rboth.kept pp.2 (by omega)
  replace bel := bel.grown pp.2 bel.size (fun k hk => by cases hk; omega)
  have rbet := pp.1
  clear m2 pp
  refine anyT_one (i := 9) (by kernel_rfl) rfl (fun K hK => ?_)
  refine wp_store_mid 112 _ _ rfl Gbet 0 Lbet.toArray rfl rfl th qbet.sz2 (all_oneCell_toArray qbet.one) ?_
  (try dsimp only)
  refine hK.out _ _ ⟨rda.all, rcb.all⟩ (fun _ => trivial) ?_
  clear hK K th
  refine anyT_done (by kernel_rfl) ?_ _
  refine NoPanic.normal ?_
  generalize wq20.setCells Gbet 0 Lbet = wq21 at rl rr raa rbb re rda rcb rboth rbet bel ⊢
  have obet : Gboth ≠ Gbet := hg
  have zboth : w.heap.size < Gboth := by omega
  have zbet : w.heap.size < Gbet := by omega
  clear hg hlow l1 l2 lt_rl lt_rr lt_raa lt_rbb lt_re lt_rda lt_rcb
  clear rda rcb
  go_wp2_with (fail)
  have hd0 : Below wq21.heap.size wq21 wq21.drew := (Below.refl _ _).drew
  refine wp_region_noPanic ?_
  refine wp_region_T 99 (fun X => X.rangeAt Gboth 0 Lboth ∧ X.rangeAt w.heap.size 0 LX ∧ X.rangeAt Gbet 0 Lbet) (fun _ => True) (by kernel_rfl) ?_
  generalize wq21.drew = W22 at hd0 ⊢
  replace rl := rl.below hd0
  replace rr := rr.below hd0
  replace raa := raa.below hd0
  replace rbb := rbb.below hd0
  replace re := re.below hd0
  replace rboth := rboth.below hd0
  replace rbet := rbet.below hd0
  replace bel := below_on bel hd0
  clear hd0
  have hT : W22.rangeAt Gboth 0 Lboth ∧ W22.rangeAt w.heap.size 0 LX ∧ W22.rangeAt Gbet 0 Lbet := ⟨rboth.all, (lad_x rl ), rbet.all⟩
  refine anyT_takeT (i := 0) rfl (by kernel_rfl) (by kernel_rfl) (by kernel_rfl) (by kernel_rfl) (fun _ _ _ h => h) (yieldsIf_load_mid (by rfl) _ _ rfl _ _ rfl Lboth _ (fun _ hw => hw.1) Tryz.underlying112 rfl qboth.sz) hT (fun _ => trivial) ?_
  simp only [Act.put, List.getElem_toArray, List.getElem_cons_zero, List.setIfInBounds_toArray]
  refine anyT_takeT (i := 1) rfl (by kernel_rfl) (by kernel_rfl) (by kernel_rfl) (by kernel_rfl) (fun _ _ _ h => h) (yieldsIf_load_mid (by rfl) _ _ rfl _ _ rfl Lboth _ (fun _ hw => hw.1) Tryz.underlying112 rfl qboth.sz) hT (fun _ => trivial) ?_
  simp only [Act.put, List.getElem_toArray, List.getElem_cons_zero, List.getElem_cons_succ, List.setIfInBounds_toArray, List.set_cons_zero, List.set_cons_succ]
  refine anyT_takeT (i := 3) (v := .pointer (some ⟨w.heap.size, 0, none⟩)) rfl (by kernel_rfl) (by kernel_rfl) (by kernel_rfl) (by kernel_rfl) (fun _ _ _ h => h) (Or.inl ⟨by rfl, fun X hSw => by ((try dsimp only at hSw); go_simp)⟩) hT (fun _ => trivial) ?_
  simp only [Act.put, List.getElem_toArray, List.getElem_cons_zero, List.getElem_cons_succ, List.setIfInBounds_toArray, List.set_cons_zero, List.set_cons_succ]
  refine anyT_takeT (i := 4) rfl (by kernel_rfl) (by kernel_rfl) (by kernel_rfl) (by kernel_rfl) (fun _ _ _ h => h) (yieldsIf_load_mid (by rfl) _ _ rfl _ _ rfl LX _ (fun _ hw => hw.2.1) Tryz.underlying112 rfl qX.sz) hT (fun _ => trivial) ?_
  simp only [Act.put, List.getElem_toArray, List.getElem_cons_zero, List.getElem_cons_succ, List.setIfInBounds_toArray, List.set_cons_zero, List.set_cons_succ]
  refine anyT_takeT (i := 5) rfl (by kernel_rfl) (by kernel_rfl) (by kernel_rfl) (by kernel_rfl) (fun _ _ _ h => h) (yieldsIf_load_mid (by rfl) _ _ rfl _ _ rfl Lbet _ (fun _ hw => hw.2.2) Tryz.underlying112 rfl qbet.sz) hT (fun _ => trivial) ?_
  simp only [Act.put, List.getElem_toArray, List.getElem_cons_zero, List.getElem_cons_succ, List.setIfInBounds_toArray, List.set_cons_zero, List.set_cons_succ]
  refine anyT_takeT (i := 6) rfl (by kernel_rfl) (by kernel_rfl) (by kernel_rfl) (by kernel_rfl) (fun _ _ _ h => h) (yieldsIf_load_mid (by rfl) _ _ rfl _ _ rfl Lbet _ (fun _ hw => hw.2.2) Tryz.underlying112 rfl qbet.sz) hT (fun _ => trivial) ?_
  simp only [Act.put, List.getElem_toArray, List.getElem_cons_zero, List.getElem_cons_succ, List.setIfInBounds_toArray, List.set_cons_zero, List.set_cons_succ]
  refine anyT_one (i := 2) (by kernel_rfl) rfl (fun K hK => ?_)
  go_simp
  refine (CT5 _).mono ?_
  rintro e wc23 ⟨rfl, bc⟩
  clear hT
  replace rl := rl.below bc
  replace rr := rr.below bc
  replace raa := raa.below bc
  replace rbb := rbb.below bc
  replace re := re.below bc
  replace rboth := rboth.below bc
  replace rbet := rbet.below bc
  replace bel := below_on bel bc
  have hT := (show wc23.rangeAt Gboth 0 Lboth ∧ wc23.rangeAt w.heap.size 0 LX ∧ wc23.rangeAt Gbet 0 Lbet from ⟨rboth.all, (lad_x rl ), rbet.all⟩)
  go_wp2_with (fail)
  refine hK.out _ _ hT (fun _ => trivial) ?_
  clear hK K bc
  refine anyT_one (i := 7) (by kernel_rfl) rfl (fun K hK => ?_)
  go_simp
  refine (CT6 _).mono ?_
  rintro e wc24 ⟨rfl, bc⟩
  clear hT
  replace rl := rl.below bc
  replace rr := rr.below bc
  replace raa := raa.below bc
  replace rbb := rbb.below bc
  replace re := re.below bc
  replace rboth := rboth.below bc
  replace rbet := rbet.below bc
  replace bel := below_on bel bc
  have hT := (show wc24.rangeAt Gboth 0 Lboth ∧ wc24.rangeAt w.heap.size 0 LX ∧ wc24.rangeAt Gbet 0 Lbet from ⟨rboth.all, (lad_x rl ), rbet.all⟩)
  go_wp2_with (fail)
  refine hK.out _ _ hT (fun _ => trivial) ?_
  clear hK K bc
  refine anyT_one (i := 8) (by kernel_rfl) rfl (fun K hK => ?_)
  go_simp
  refine (CT7 _).mono ?_
  rintro e wc25 ⟨rfl, bc⟩
  clear hT
  replace rl := rl.below bc
  replace rr := rr.below bc
  replace raa := raa.below bc
  replace rbb := rbb.below bc
  replace re := re.below bc
  replace rboth := rboth.below bc
  replace rbet := rbet.below bc
  replace bel := below_on bel bc
  have hT := (show wc25.rangeAt Gboth 0 Lboth ∧ wc25.rangeAt w.heap.size 0 LX ∧ wc25.rangeAt Gbet 0 Lbet from ⟨rboth.all, (lad_x rl ), rbet.all⟩)
  go_wp2_with (fail)
  refine hK.out _ _ hT (fun _ => trivial) ?_
  clear hK K bc
  refine anyT_takeT (i := 9) rfl (by kernel_rfl) (by kernel_rfl) (by kernel_rfl) (by kernel_rfl) (fun _ _ _ h => h) (yieldsIf_build (by rfl) 116 #[(0, .tmp 65), (1, .tmp 71)] rfl #[(0, .agg LnB.toArray), (1, .agg LnD.toArray)] (by simp [Act.eval]) (fun X => b_rat qnB qnD X)) hT (fun _ => trivial) ?_
  simp only [Act.put, List.getElem_toArray, List.getElem_cons_zero, List.getElem_cons_succ, List.setIfInBounds_toArray, List.set_cons_zero, List.set_cons_succ]
  refine anyT_takeT (i := 10) (v := .pointer (some ⟨w.heap.size, 12, none⟩)) rfl (by kernel_rfl) (by kernel_rfl) (by kernel_rfl) (by kernel_rfl) (fun _ _ _ h => h) (Or.inl ⟨by rfl, fun X hSw => by ((try dsimp only at hSw); go_simp)⟩) hT (fun _ => trivial) ?_
  simp only [Act.put, List.getElem_toArray, List.getElem_cons_zero, List.getElem_cons_succ, List.setIfInBounds_toArray, List.set_cons_zero, List.set_cons_succ]
  clear hT
  have th := rl.there (o := 12) (m := (LnB ++ LnD).toArray.size) (by simp [qnB.len, qnD.len])
  have pp := lad_put_bd rl qX qA qC qB qD qnB qnD
  have lt_rl := rl.lt
  have lt_rr := rr.lt
  have lt_raa := raa.lt
  have lt_rbb := rbb.lt
  have lt_re := re.lt
  have lt_rboth := rboth.lt
  have lt_rbet := rbet.lt
  replace rr := rr.kept pp.2 (by omega)
  replace raa := raa.kept pp.2 (by omega)
  replace rbb := rbb.kept pp.2 (by omega)
  replace re := re.kept pp.2 (by omega)
  replace rboth := rboth.kept pp.2 (by omega)
  replace rbet := rbet.kept pp.2 (by omega)
  replace bel := bel.grown pp.2 bel.size (fun k hk => by cases hk; omega)
  clear rl
  have rl := pp.1
  clear pp lt_rl lt_rr lt_raa lt_rbb lt_re lt_rboth lt_rbet
  refine anyT_one (i := 11) (by kernel_rfl) rfl (fun K hK => ?_)
  refine wp_store_mid 116 _ _ rfl w.heap.size 12 (LnB ++ LnD).toArray rfl rfl th (szRat2 (rat_length qnB qnD)) (all_oneCell_toArray (rat_one qnB qnD)) ?_
  (try dsimp only)
  refine hK.out _ _ ⟨rboth.all, (lad_x rl ), rbet.all⟩ (fun _ => trivial) ?_
  clear hK K th
  refine anyT_done (by kernel_rfl) ?_ _
  refine NoPanic.normal ?_
  generalize wc25.setCells w.heap.size 12 (LnB ++ LnD) = wq26 at rl rr raa rbb re rboth rbet bel ⊢
  clear rboth rbet
  go_wp2_with (fail)
  have hd0 : Below wq26.heap.size wq26 wq26.drew := (Below.refl _ _).drew
  refine wp_region_noPanic ?_
  refine wp_region_T 99 (fun X => X.rangeAt Gaa 0 Laa ∧ X.rangeAt Gbb 0 Lbb ∧ X.rangeAt Ge 0 Le) (fun _ => True) (by kernel_rfl) ?_
  generalize wq26.drew = W27 at hd0 ⊢
  replace rl := rl.below hd0
  replace rr := rr.below hd0
  replace raa := raa.below hd0
  replace rbb := rbb.below hd0
  replace re := re.below hd0
  replace bel := below_on bel hd0
  clear hd0
  have hT : W27.rangeAt Gaa 0 Laa ∧ W27.rangeAt Gbb 0 Lbb ∧ W27.rangeAt Ge 0 Le := ⟨raa.all, rbb.all, re.all⟩
  refine anyT_takeT (i := 0) rfl (by kernel_rfl) (by kernel_rfl) (by kernel_rfl) (by kernel_rfl) (fun _ _ _ h => h) (yieldsIf_load_mid (by rfl) _ _ rfl _ _ rfl Laa _ (fun _ hw => hw.1) Tryz.underlying112 rfl qaa.sz) hT (fun _ => trivial) ?_
  simp only [Act.put, List.getElem_toArray, List.getElem_cons_zero, List.setIfInBounds_toArray]
  refine anyT_takeT (i := 1) rfl (by kernel_rfl) (by kernel_rfl) (by kernel_rfl) (by kernel_rfl) (fun _ _ _ h => h) (yieldsIf_load_mid (by rfl) _ _ rfl _ _ rfl Lbb _ (fun _ hw => hw.2.1) Tryz.underlying112 rfl qbb.sz) hT (fun _ => trivial) ?_
  simp only [Act.put, List.getElem_toArray, List.getElem_cons_zero, List.getElem_cons_succ, List.setIfInBounds_toArray, List.set_cons_zero, List.set_cons_succ]
  refine anyT_takeT (i := 3) rfl (by kernel_rfl) (by kernel_rfl) (by kernel_rfl) (by kernel_rfl) (fun _ _ _ h => h) (yieldsIf_load_mid (by rfl) _ _ rfl _ _ rfl Le _ (fun _ hw => hw.2.2) Tryz.underlying112 rfl qe.sz) hT (fun _ => trivial) ?_
  simp only [Act.put, List.getElem_toArray, List.getElem_cons_zero, List.getElem_cons_succ, List.setIfInBounds_toArray, List.set_cons_zero, List.set_cons_succ]
  refine anyT_takeT (i := 4) rfl (by kernel_rfl) (by kernel_rfl) (by kernel_rfl) (by kernel_rfl) (fun _ _ _ h => h) (yieldsIf_load_mid (by rfl) _ _ rfl _ _ rfl Laa _ (fun _ hw => hw.1) Tryz.underlying112 rfl qaa.sz) hT (fun _ => trivial) ?_
  simp only [Act.put, List.getElem_toArray, List.getElem_cons_zero, List.getElem_cons_succ, List.setIfInBounds_toArray, List.set_cons_zero, List.set_cons_succ]
  refine anyT_takeT (i := 5) rfl (by kernel_rfl) (by kernel_rfl) (by kernel_rfl) (by kernel_rfl) (fun _ _ _ h => h) (yieldsIf_load_mid (by rfl) _ _ rfl _ _ rfl Le _ (fun _ hw => hw.2.2) Tryz.underlying112 rfl qe.sz) hT (fun _ => trivial) ?_
  simp only [Act.put, List.getElem_toArray, List.getElem_cons_zero, List.getElem_cons_succ, List.setIfInBounds_toArray, List.set_cons_zero, List.set_cons_succ]
  refine anyT_takeT (i := 6) rfl (by kernel_rfl) (by kernel_rfl) (by kernel_rfl) (by kernel_rfl) (fun _ _ _ h => h) (yieldsIf_build (by rfl) 112 #[(0, .const (.int .u64 121665))] rfl #[(0, .int .u64 121665)] (by simp [Act.eval]) (fun X => BK X)) hT (fun _ => trivial) ?_
  simp only [Act.put, List.getElem_toArray, List.getElem_cons_zero, List.getElem_cons_succ, List.setIfInBounds_toArray, List.set_cons_zero, List.set_cons_succ]
  refine anyT_one (i := 2) (by kernel_rfl) rfl (fun K hK => ?_)
  go_simp
  refine (CT8 _).mono ?_
  rintro e wc28 ⟨rfl, bc⟩
  clear hT
  replace rl := rl.below bc
  replace rr := rr.below bc
  replace raa := raa.below bc
  replace rbb := rbb.below bc
  replace re := re.below bc
  replace bel := below_on bel bc
  have hT := (show wc28.rangeAt Gaa 0 Laa ∧ wc28.rangeAt Gbb 0 Lbb ∧ wc28.rangeAt Ge 0 Le from ⟨raa.all, rbb.all, re.all⟩)
  go_wp2_with (fail)
  refine hK.out _ _ hT (fun _ => trivial) ?_
  clear hK K bc
  refine anyT_one (i := 7) (by kernel_rfl) rfl (fun K hK => ?_)
  go_simp
  refine (CT9 _).mono ?_
  rintro e wc29 ⟨rfl, bc⟩
  clear hT
  replace rl := rl.below bc
  replace rr := rr.below bc
  replace raa := raa.below bc
  replace rbb := rbb.below bc
  replace re := re.below bc
  replace bel := below_on bel bc
  have hT := (show wc29.rangeAt Gaa 0 Laa ∧ wc29.rangeAt Gbb 0 Lbb ∧ wc29.rangeAt Ge 0 Le from ⟨raa.all, rbb.all, re.all⟩)
  go_wp2_with (fail)
  refine hK.out _ _ hT (fun _ => trivial) ?_
  clear hK K bc
  refine anyT_one (i := 8) (by kernel_rfl) rfl (fun K hK => ?_)
  go_simp
  refine (CP4 _).mono ?_
  rintro e wc30 ⟨rfl, bc⟩
  clear hT
  replace rl := rl.below bc
  replace rr := rr.below bc
  replace raa := raa.below bc
  replace rbb := rbb.below bc
  replace re := re.below bc
  replace bel := below_on bel bc
  have hT := (show wc30.rangeAt Gaa 0 Laa ∧ wc30.rangeAt Gbb 0 Lbb ∧ wc30.rangeAt Ge 0 Le from ⟨raa.all, rbb.all, re.all⟩)
  go_wp2_with (fail)
  refine hK.out _ _ hT (fun _ => trivial) ?_
  clear hK K bc
  refine anyT_one (i := 9) (by kernel_rfl) rfl (fun K hK => ?_)
  go_simp
  refine (CT10 _).mono ?_
  rintro e wc31 ⟨rfl, bc⟩
  clear hT
  replace rl := rl.below bc
  replace rr := rr.below bc
  replace raa := raa.below bc
  replace rbb := rbb.below bc
  replace re := re.below bc
  replace bel := below_on bel bc
  have hT := (show wc31.rangeAt Gaa 0 Laa ∧ wc31.rangeAt Gbb 0 Lbb ∧ wc31.rangeAt Ge 0 Le from ⟨raa.all, rbb.all, re.all⟩)
  go_wp2_with (fail)
  refine hK.out _ _ hT (fun _ => trivial) ?_
  clear hK K bc
  refine anyT_takeT (i := 10) rfl (by kernel_rfl) (by kernel_rfl) (by kernel_rfl) (by kernel_rfl) (fun _ _ _ h => h) (yieldsIf_build (by rfl) 116 #[(0, .tmp 76), (1, .tmp 83)] rfl #[(0, .agg LnA.toArray), (1, .agg LnC.toArray)] (by simp [Act.eval]) (fun X => b_rat qnA qnC X)) hT (fun _ => trivial) ?_
  simp only [Act.put, List.getElem_toArray, List.getElem_cons_zero, List.getElem_cons_succ, List.setIfInBounds_toArray, List.set_cons_zero, List.set_cons_succ]
  refine anyT_takeT (i := 11) (v := .pointer (some ⟨w.heap.size, 4, none⟩)) rfl (by kernel_rfl) (by kernel_rfl) (by kernel_rfl) (by kernel_rfl) (fun _ _ _ h => h) (Or.inl ⟨by rfl, fun X hSw => by ((try dsimp only at hSw); go_simp)⟩) hT (fun _ => trivial) ?_
  simp only [Act.put, List.getElem_toArray, List.getElem_cons_zero, List.getElem_cons_succ, List.setIfInBounds_toArray, List.set_cons_zero, List.set_cons_succ]
  clear hT
  have th := rl.there (o := 4) (m := (LnA ++ LnC).toArray.size) (by simp [qnA.len, qnC.len])
  have pp := lad_put_ac rl qX qA qC qnA qnC
  have lt_rl := rl.lt
  have lt_rr := rr.lt
  have lt_raa := raa.lt
  have lt_rbb := rbb.lt
  have lt_re := re.lt
  replace rr := rr.kept pp.2 (by omega)
  replace raa := raa.kept pp.2 (by omega)
  replace rbb := rbb.kept pp.2 (by omega)
  replace re := re.kept pp.2 (by omega)
  replace bel := bel.grown pp.2 bel.size (fun k hk => by cases hk; omega)
  clear rl
  have rl := pp.1
  clear pp lt_rl lt_rr lt_raa lt_rbb lt_re
  refine anyT_one (i := 12) (by kernel_rfl) rfl (fun K hK => ?_)
  refine wp_store_mid 116 _ _ rfl w.heap.size 4 (LnA ++ LnC).toArray rfl rfl th (szRat2 (rat_length qnA qnC)) (all_oneCell_toArray (rat_one qnA qnC)) ?_
  (try dsimp only)
  refine hK.out _ _ ⟨raa.all, rbb.all, re.all⟩ (fun _ => trivial) ?_
  clear hK K th
  refine anyT_done (by kernel_rfl) ?_ _
  refine NoPanic.normal ?_
  generalize wc31.setCells w.heap.size 4 (LnA ++ LnC) = wq32 at rl rr raa rbb re bel ⊢
  have hlen := LadV_length qX qnA qnC qnB qnD
  have hone := LadV_one qX qnA qnC qnB qnD
  rw [← hR.out] at rl hlen hone
  have q3 := rl.all
  have t3 := rr.there (o := 0) (m := LR.toArray.size) (by simp [hlen])
  have p3 := rr.putAll (B := LR) (by rw [hlen, uV_length])
  replace bel := bel.grown p3.2 bel.size (fun k hk => by cases hk; omega)
  have hld := run_loadVar_mid (P := Tryz.prog) _ _ 0 118 _ _ p3.1.all Tryz.underlying118 rfl (szLad hlen)
  have z3 := szLad hlen
  have z4 := szLad2 hlen
  clear rl rr p3 hR raa rbb re
  go_wp2_with (first | (with_reducible refine wpList_load_mid rfl 118 _ rfl w.heap.size 0 rfl LR _ q3 Tryz.underlying118 rfl z3 ?_) | (with_reducible refine wpList_store_mid rfl 118 _ _ rfl Gr 0 LR.toArray rfl rfl t3 z4 (all_oneCell_toArray hone) ?_; (try dsimp only)))
  (try simp only [Exit.inBlock, Exit.then])
  refine bodyPost_ret (v := .agg LR.toArray) ?_ rfl ⟨rfl, bel⟩
  simp [results, asAddr, Act.put, hld]
end Go.Proofs.YtnpffnhiefgglaaGreatDoor
