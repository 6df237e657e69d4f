/-
  What the program's plus and minus answer. Conditions: numbers from 0 on whose sum is below 2 to the 256th; numbers below p.
-/
import Derived.Test.YtghoibggmddkmaoFieldC
namespace Go.Proofs.Ytghoibggmddkmao
open Go.RowKit

set_option maxRecDepth 100000 in
set_option maxHeartbeats 8000000 in
theorem plus_any (x y : Int) (w : World) (hx0 : 0 ≤ x) (hy0 : 0 ≤ y) (hs : x + y < bU ^ 4) :
    Calls Try.prog 49 #[uP x, uP y] w fun e w' => e = .returned (uP ((x + y) % fldP)) ∧ Below w.heap.size w w' := by
  have HC : Hid (∀ k, 0 ≤ carU (plusT x y) 0 k ∧ carU (plusT x y) 0 k < bU) := fun k => carU_le (plusT_le x y) (by decide) k
  have HD : Hid (∀ k, k < 4 → digU (plusT x y) 0 k = numU (x + y) k) := fun k hk => dig_plus hx0 (by omega) hy0 (by omega) hk
  have CR := fun X => rest_any (x + y) X (by omega) hs
  clear hx0 hy0 hs
  unfold uP at CR
  have hz := (zero_of_info infoU4).1
  unfold uP
  obtain ⟨V, hV⟩ : ∃ V, V = numU ((x + y) % fldP) := ⟨_, rfl⟩
  rw [← hV] at CR ⊢
  clear hV
  obtain ⟨U, hU⟩ : ∃ U, U = numU (x + y) := ⟨_, rfl⟩
  rw [← hU] at CR HD
  clear hU
  obtain ⟨A, hA⟩ : ∃ A, A = (uV (numU x) 4).toArray := ⟨_, rfl⟩
  obtain ⟨B, hB⟩ : ∃ B, B = (uV (numU y) 4).toArray := ⟨_, rfl⟩
  obtain ⟨Z, hZ⟩ : ∃ Z, Z = (uV (fun _ => 0) 4).toArray := ⟨_, rfl⟩
  obtain ⟨m0, m1, m2, bel, sz⟩ := rows3 w (numU x) (numU y) (fun _ => 0) hA hB hZ
  rw [← hA, ← hB]
  rw [← hZ] at hz
  clear hA hB hZ
  go_enter Try.func49, Try.ntmps49
  go_wp2_with (fail)
  obtain ⟨G1, hG1⟩ : ∃ G1, G1 = w.heap.size + 1 := ⟨_, rfl⟩
  obtain ⟨G2, hG2⟩ : ∃ G2, G2 = G1 + 1 := ⟨_, rfl⟩
  rw [← hG1] at m1 m2 sz ⊢
  rw [← hG2] at m2 sz ⊢
  generalize ((w.alloc (.cells A 38)).alloc (.cells B 38)).alloc (.cells Z 38) = wb at m0 m1 m2 bel sz ⊢
  refine (sums_any 0 _).mono ?_
  rintro e w1 ⟨rfl, rfl⟩
  have mo := overRow wb w.heap.size 0 (by omega)
  obtain ⟨GO, hGO⟩ : ∃ GO, GO = wb.heap.size := ⟨_, rfl⟩
  rw [← hGO] at mo ⊢
  generalize wb.alloc (.cells #[.int .u64 0] 36) = wc at mo ⊢
  have bo : Below wb.heap.size wb wc := by rw [← hGO]; exact mo.2
  have DS : Apart4 w.heap.size G1 G2 GO := ⟨by omega, by omega, by omega, by omega, by omega, by omega⟩
  have hI0 : SumI w w.heap.size w.heap.size G1 G2 GO (numU x) (numU y) (fun _ => 0) 0 wc := ⟨m0.below bo, m1.below bo, m2.below bo, mo.1, below_on bel bo⟩
  have hloR : w.heap.size ≤ G2 := by omega
  clear m0 m1 m2 mo bo bel sz hG1 hG2 hGO hz
  unfold tellV
  go_wp2_with (fail)
  go_loopw [8] (fun i wr => ∃ k : Nat, k ≤ 4 ∧ i = .int .i64 k ∧ SumI w w.heap.size w.heap.size G1 G2 GO (mixU (digU (plusT x y) 0) (numU x) k) (numU y) (fun _ => 0) (carU (plusT x y) 0 k) wr)
    (fun i _ => 4 - (intOf i).toNat)
  case atStart => exact ⟨0, by omega, rfl, hI0.congr fun i _ => (mixU_zero _ _ i).symm⟩
  case round =>
    clear hI0
    obtain ⟨k, hk, rfl, hI⟩ := hrel
    by_cases hlt : k < 4
    · have hlt' : (k : Int) < 4 := by omega
      have hD := hI.drew
      obtain ⟨wX, hwX⟩ : ∃ wX, wX = wr.drew := ⟨_, rfl⟩
      rw [← hwX] at hD
      have cn := hD.n.cell k hlt
      rw [mixU_at] at cn
      have cm := hD.m.cell k hlt
      have co := hD.o.cell 0 (by decide)
      have fo := hD.o.frozen 0
      have fn0 := hD.n.frozen k
      have la := numU_range x k
      have lb := numU_range y k
      have lc := HC.out k
      have h2 := (hD.tell DS (carU (plusT x y) 0 (k + 1))).store DS k (digU (plusT x y) 0 k)
      replace h2 := h2.congr fun i _ => mixU_step (digU (plusT x y) 0) (numU x) k i
      have h1 := hD.tell DS (carU (plusT x y) 0 (k + 1))
      have cn1 := h1.n.cell k hlt
      rw [mixU_at] at cn1
      have cm1 := h1.m.cell k hlt
      have fn1 := h1.n.frozen k
      have cm2 := h2.m.cell k hlt
      have EQ : Hid (plusT x y k = numU x k + numU y k * 1) := by show numU x k + numU y k = _; (try unfold bU); omega
      have CT := fun h h' => tell_any GO (numU x k) (numU y k) 1 (carU (plusT x y) 0 k) (digU (plusT x y) 0 k) (carU (plusT x y) 0 (k + 1)) wX la (by unfold bU at lb ⊢; omega) (by decide) lc (by rw [← EQ.out]; rfl) (by rw [← EQ.out]; rfl) h h'
      have CT' := CT co fo
      clear CT EQ
      have ld := digU_range (plusT x y) 0 k
      obtain ⟨o, ho⟩ : ∃ o, o = carU (plusT x y) 0 (k + 1) := ⟨_, rfl⟩
      rw [← ho] at CT' h1 h2 cn1 cm1 cm2 fn1
      replace ho : Hid (o = carU (plusT x y) 0 (k + 1)) := ho
      generalize digU (plusT x y) 0 k = r at CT' h2 cm2 ld
      generalize numU x k = a at cn cn1 CT' la
      generalize numU y k = b at cm cm1 cm2 CT' lb
      generalize carU (plusT x y) 0 k = cc at co lc
      unfold bU at la lb lc ld
      clear co fo hI h1 hD
      replace hwX : Hid (wX = wr.drew) := hwX
      go_wp2_with (fail)
      refine wp_region_noPanic ?_
      refine wp_region_T 10 (fun X => X.cell? ⟨G1, k, none⟩ = some (.int .u64 b)) (fun X => X.cell? ⟨w.heap.size, k, none⟩ = some (.int .u64 a)) (by kernel_rfl) ?_
      rw [← hwX.out]
      clear hwX
      refine anyT_takeT (i := 0) (v := .int .i64 (k : Int)) rfl (by kernel_rfl) (by kernel_rfl) (by kernel_rfl) (by kernel_rfl) (fun _ _ _ h => h) (Or.inl ⟨by rfl, fun X hSw => by ((try dsimp only at hSw); go_simp)⟩) cm (fun _ => cn) ?_
      simp only [Act.put, List.getElem_toArray, List.getElem_cons_zero, List.setIfInBounds_toArray, List.set_cons_zero, List.set_cons_succ]
      refine anyT_takeT (i := 1) (v := tellV GO) rfl (by kernel_rfl) (by kernel_rfl) (by kernel_rfl) (by kernel_rfl) (fun _ _ _ h => h) (Or.inl ⟨by rfl, fun X hSw => by ((try dsimp only at hSw); unfold tellV; go_simp)⟩) cm (fun _ => cn) ?_
      simp only [Act.put, List.getElem_toArray, List.getElem_cons_zero, List.getElem_cons_succ, List.setIfInBounds_toArray, List.set_cons_zero, List.set_cons_succ]
      refine anyT_takeT (i := 2) (v := .int .i64 (k : Int)) rfl (by kernel_rfl) (by kernel_rfl) (by kernel_rfl) (by kernel_rfl) (fun _ _ _ h => h) (Or.inl ⟨by rfl, fun X hSw => by ((try dsimp only at hSw); go_simp)⟩) cm (fun _ => cn) ?_
      simp only [Act.put, List.getElem_toArray, List.getElem_cons_zero, List.getElem_cons_succ, List.setIfInBounds_toArray, List.set_cons_zero, List.set_cons_succ]
      refine anyT_takeT (i := 3) (v := .pointer (some ⟨w.heap.size, k, none⟩)) rfl (by kernel_rfl) (by kernel_rfl) (by kernel_rfl) (by kernel_rfl) (fun _ _ _ h => h) (Or.inl ⟨by rfl, fun X hSw => by ((try dsimp only at hSw); go_simp)⟩) cm (fun _ => cn) ?_
      simp only [Act.put, List.getElem_toArray, List.getElem_cons_zero, List.getElem_cons_succ, List.setIfInBounds_toArray, List.set_cons_zero, List.set_cons_succ]
      refine anyT_takeS (i := 4) (v := .int .u64 a) rfl rfl (by kernel_rfl) (by kernel_rfl) (by kernel_rfl) (by kernel_rfl) (by kernel_rfl) (fun _ _ _ h => h) (Or.inl ⟨by rfl, fun X hSw => by (obtain ⟨q0, q1⟩ := hSw; go_simp)⟩) cm cn ?_
      simp only [Act.put, List.getElem_toArray, List.getElem_cons_zero, List.getElem_cons_succ, List.setIfInBounds_toArray, List.set_cons_zero, List.set_cons_succ]
      refine anyT_takeT (i := 5) (v := .int .i64 (k : Int)) rfl (by kernel_rfl) (by kernel_rfl) (by kernel_rfl) (by kernel_rfl) (fun _ _ _ h => h) (Or.inl ⟨by rfl, fun X hSw => by ((try dsimp only at hSw); go_simp)⟩) cm (fun _ => cn) ?_
      simp only [Act.put, List.getElem_toArray, List.getElem_cons_zero, List.getElem_cons_succ, List.setIfInBounds_toArray, List.set_cons_zero, List.set_cons_succ]
      refine anyT_takeT (i := 6) (v := .pointer (some ⟨G1, k, none⟩)) rfl (by kernel_rfl) (by kernel_rfl) (by kernel_rfl) (by kernel_rfl) (fun _ _ _ h => h) (Or.inl ⟨by rfl, fun X hSw => by ((try dsimp only at hSw); go_simp)⟩) cm (fun _ => cn) ?_
      simp only [Act.put, List.getElem_toArray, List.getElem_cons_zero, List.getElem_cons_succ, List.setIfInBounds_toArray, List.set_cons_zero, List.set_cons_succ]
      refine anyT_takeT (i := 7) (v := .int .u64 b) rfl (by kernel_rfl) (by kernel_rfl) (by kernel_rfl) (by kernel_rfl) (fun _ _ _ h => h) (Or.inl ⟨by rfl, fun X hSw => by ((try dsimp only at hSw); go_simp)⟩) cm (fun _ => cn) ?_
      simp only [Act.put, List.getElem_toArray, List.getElem_cons_zero, List.getElem_cons_succ, List.setIfInBounds_toArray, List.set_cons_zero, List.set_cons_succ]
      refine anyT_one (i := 8) (by kernel_rfl) rfl (fun K hK => ?_)
      unfold tellV
      go_simp
      refine CT'.mono ?_
      rintro e w9 ⟨rfl, rfl⟩
      go_wp2_with (fail)
      refine hK.out _ _ cm1 (fun _ => cn1) ?_
      clear hK K
      refine anyT_takeT (i := 9) (v := .pointer (some ⟨w.heap.size, k, none⟩)) rfl (by kernel_rfl) (by kernel_rfl) (by kernel_rfl) (by kernel_rfl) (fun _ _ _ h => h) (Or.inl ⟨by rfl, fun X hSw => by ((try dsimp only at hSw); go_simp)⟩) cm1 (fun _ => cn1) ?_
      simp only [Act.put, List.getElem_toArray, List.getElem_cons_zero, List.getElem_cons_succ, List.setIfInBounds_toArray, List.set_cons_zero, List.set_cons_succ]
      refine anyT_one (i := 10) (by kernel_rfl) rfl (fun K hK => ?_)
      go_simp
      refine hK.out _ _ cm2 (fun h => by cases h) ?_
      clear hK K
      refine anyT_done (by kernel_rfl) ?_ _
      refine NoPanic.normal ?_
      clear cm cn cm1 cn1 fn0 fn1 cm2 CT'
      go_wp2_with (fail)
      go_roundw
      case rel => exact ⟨k + 1, by omega, by go_num, by rw [← ho.out]; exact h2⟩
      case measure => simp [intOf]; omega
    · obtain rfl : k = 4 := by omega
      have hno : ¬ ((4 : Nat) : Int) < 4 := by omega
      replace hI := hI.congr (f' := U) fun i hi => by rw [mixU_end _ _ hi, HD.out i hi]
      have hra := hI.n.range
      have hr := hI.r
      have bel := hI.b
      have hsw := hI.n.lt
      clear HC HD hI
      go_wp2_with (refine wpList_load_mid rfl 38 _ rfl w.heap.size 0 rfl (uV U 4) _ hra Try.underlying38 rfl sizeU ?_)
      refine (CR _).mono ?_
      rintro e w2 ⟨rfl, b2⟩
      have hr2 := hr.below b2
      have bel2 := below_on bel b2
      have hsz5 := b2.size
      clear hr bel hra b2 CR
      have hp := RowU.put hr2 (f' := V)
      have hth := RowU.there2 hr2 (f' := V)
      have hbel := Below.grown bel2 hp.2 (by omega) (fun k hk => by cases hk; exact hloR)
      have hld := run_loadVar_mid (P := Try.prog) _ G2 0 38 _ _ hp.1.range Try.underlying38 rfl sizeU
      clear hp
      go_wp2_with (refine wpList_store_mid rfl 38 _ _ rfl G2 0 (uV V 4).toArray rfl rfl hth sizeU2 (all_oneCell_toArray (uV_one V 4)) ?_)
      (try simp only [Exit.inBlock, Exit.then])
      refine bodyPost_ret (v := .agg (uV V 4).toArray) ?_ rfl ⟨rfl, hbel⟩
      simp [results, asAddr, Act.put, hld]

set_option maxRecDepth 100000 in
set_option maxHeartbeats 8000000 in
theorem minus_any (x y : Int) (w : World) (hx0 : 0 ≤ x) (hx : x < fldP) (hy0 : 0 ≤ y) (hy : y < fldP) :
    Calls Try.prog 50 #[uP x, uP y] w fun e w' => e = .returned (uP ((x - y) % fldP)) ∧ Below w.heap.size w w' := by
  have h4 := b4U
  have CP := fun X => fieldP_any X
  have CL := fun X => less_any fldP y X (by omega) (by omega) hy0 (by omega)
  have CS := fun X => plus_any x (fldP - y) X hx0 (by omega) (by omega)
  have e1 : (fldP - y) % bU ^ 4 = fldP - y := Int.emod_eq_of_lt (by omega) (by omega)
  have e2 : (x + (fldP - y)) % fldP = (x - y) % fldP := by rw [show x + (fldP - y) = (x - y) + fldP by omega, Int.add_emod_right]
  have e3 : decide (y ≤ fldP) = true := by simp; omega
  rw [e1, e3] at CL
  simp only [e2] at CS
  clear hx0 hx hy0 hy h4 e1 e2 e3
  unfold uP at CP CL CS
  have hz := (zero_of_info infoU4).1
  unfold uP
  obtain ⟨V, hV⟩ : ∃ V, V = numU ((x - y) % fldP) := ⟨_, rfl⟩
  rw [← hV] at CS ⊢
  clear hV
  obtain ⟨L, hL⟩ : ∃ L, L = numU (fldP - y) := ⟨_, rfl⟩
  rw [← hL] at CS CL
  clear hL
  obtain ⟨A, hA⟩ : ∃ A, A = (uV (numU x) 4).toArray := ⟨_, rfl⟩
  obtain ⟨B, hB⟩ : ∃ B, B = (uV (numU y) 4).toArray := ⟨_, rfl⟩
  obtain ⟨Z, hZ⟩ : ∃ Z, Z = (uV (fun _ => 0) 4).toArray := ⟨_, rfl⟩
  obtain ⟨m0, m1, m2, bel, sz⟩ := rows3 w (numU x) (numU y) (fun _ => 0) hA hB hZ
  rw [← hA, ← hB]
  rw [← hZ] at hz
  clear hA hB
  replace hZ : Hid (Z = (uV (fun _ => 0) 4).toArray) := hZ
  go_enter Try.func50, Try.ntmps50
  go_wp2_with (fail)
  obtain ⟨G1, hG1⟩ : ∃ G1, G1 = w.heap.size + 1 := ⟨_, rfl⟩
  obtain ⟨G2, hG2⟩ : ∃ G2, G2 = G1 + 1 := ⟨_, rfl⟩
  rw [← hG1] at m1 m2 sz ⊢
  rw [← hG2] at m2 sz ⊢
  generalize ((w.alloc (.cells A 38)).alloc (.cells B 38)).alloc (.cells Z 38) = wb at m0 m1 m2 bel sz ⊢
  have hn := m0.drew
  have hm := m1.drew
  have hr := m2.drew
  replace bel := bel.drew
  have hlo2 : w.heap.size ≤ G2 := by omega
  clear m0 m1 m2 sz hG1 hG2
  obtain ⟨W, hW⟩ : ∃ W, W = wb.drew := ⟨_, rfl⟩
  rw [← hW] at hn hm hr bel
  replace hW : Hid (W = wb.drew) := hW
  refine wp_region_noPanic ?_
  refine wp_region_T 99 (fun X => X.rangeAt G1 0 (uV (numU y) 4)) (fun _ => True) (by kernel_rfl) ?_
  rw [← hW.out]
  clear hW
  have kX : Below W.heap.size W W := Below.refl _ _
  have hLO : Hid (∃ LO, LO = W.heap.size) := ⟨_, rfl⟩
  obtain ⟨LO, hLO⟩ := hLO.out
  replace hLO : Hid (LO = W.heap.size) := hLO
  refine anyT_takeT (i := 1) rfl (by kernel_rfl) (by kernel_rfl) (by kernel_rfl) (by kernel_rfl) (fun _ _ _ h => h) (yieldsIf_load_mid (by rfl) _ _ rfl _ _ rfl (uV (numU y) 4) _ (fun _ hw => hw) Try.underlying38 rfl sizeU) (hm.below kX).range (fun _ => trivial) ?_
  simp only [Act.put, List.getElem_toArray, List.getElem_cons_zero, List.getElem_cons_succ, List.setIfInBounds_toArray, List.set_cons_zero, List.set_cons_succ]
  refine anyT_two (i := 0) (j := 6) (by kernel_rfl) rfl rfl (fun K hK => ?_) (fun K hK => ?_)
  · go_simp
    refine (CP _).mono ?_
    rintro e wY1 ⟨rfl, bY1⟩
    have kY1 := below_on kX bY1
    go_wp2_with (fail)
    refine hK.out _ _ (hm.below kY1).range (fun _ => trivial) ?_
    clear hK K
    refine anyT_two (i := 2) (j := 6) (by kernel_rfl) rfl rfl (fun K hK => ?_) (fun K hK => ?_)
    · go_simp
      refine (CL _).mono ?_
      rintro e wY2 ⟨rfl, bY2⟩
      have kY2 := below_on kY1 bY2
      go_wp2_with (fail)
      refine hK.out _ _ (hm.below kY2).range (fun _ => trivial) ?_
      clear hK K
      refine anyT_takeT (i := 3) (v := .tuple #[.agg (uV L 4).toArray, .bool true]) rfl (by kernel_rfl) (by kernel_rfl) (by kernel_rfl) (by kernel_rfl) (fun _ _ _ h => h) (Or.inl ⟨by rfl, fun X hSw => by ((try dsimp only at hSw); go_simp)⟩) (hm.below kY2).range (fun _ => trivial) ?_
      simp only [Act.put, List.getElem_toArray, List.getElem_cons_zero, List.getElem_cons_succ, List.setIfInBounds_toArray, List.set_cons_zero, List.set_cons_succ]
      refine anyT_takeT (i := 4) (v := .agg (uV L 4).toArray) rfl (by kernel_rfl) (by kernel_rfl) (by kernel_rfl) (by kernel_rfl) (fun _ _ _ h => h) (Or.inl ⟨by rfl, fun X hSw => by ((try dsimp only at hSw); go_simp)⟩) (hm.below kY2).range (fun _ => trivial) ?_
      simp only [Act.put, List.getElem_toArray, List.getElem_cons_zero, List.getElem_cons_succ, List.setIfInBounds_toArray, List.set_cons_zero, List.set_cons_succ]
      refine anyT_takeT (i := 5) (v := .bool true) rfl (by kernel_rfl) (by kernel_rfl) (by kernel_rfl) (by kernel_rfl) (fun _ _ _ h => h) (Or.inl ⟨by rfl, fun X hSw => by ((try dsimp only at hSw); go_simp)⟩) (hm.below kY2).range (fun _ => trivial) ?_
      simp only [Act.put, List.getElem_toArray, List.getElem_cons_zero, List.getElem_cons_succ, List.setIfInBounds_toArray, List.set_cons_zero, List.set_cons_succ]
      refine anyT_one (i := 6) (by kernel_rfl) rfl (fun K hK => ?_)
      go_simp
      have h3_3 := RowU.made wY2 38 4 LO (fun _ => 0) (by decide) (by rw [hLO.out]; exact Below.size kY2)
      rw [← hZ.out] at h3_3
      have bY3 : Below wY2.heap.size wY2 (wY2.alloc (.cells Z 38)) := (Below.refl _ _).alloc (Nat.le_refl _) _
      have kY3 := below_on kY2 bY3
      refine hK.out _ _ (hm.below kY3).range (fun _ => trivial) ?_
      clear hK K
      generalize wY2.alloc (.cells Z 38) = wY3 at h3_3 bY3 kY3 ⊢
      obtain ⟨g3, hg3⟩ : ∃ g3, g3 = wY2.heap.size := ⟨_, rfl⟩
      rw [← hg3] at h3_3 ⊢
      clear hg3
      have hp := RowU.put h3_3 (f' := L)
      have hth2 := RowU.there2 h3_3 (f' := L)
      have hlt3 := RowU.lt h3_3
      rw [hLO.out] at hlt3
      have hnw := hn.lt
      have hrw := hr.lt
      have hmw := hm.lt
      have hn2 := (hn.below kY3).kept hp.2 (by omega)
      have hr2 := (hr.below kY3).kept hp.2 (by omega)
      have hm2 := (hm.below kY3).kept hp.2 (by omega)
      have bel1 := below_on bel kY3
      have hsk := Below.size kY3
      have bel2 := bel1.grown hp.2 (by omega) (fun k hk => by cases hk; omega)
      have h32 := hp.1
      refine anyT_one (i := 7) (by kernel_rfl) rfl (fun K hK => ?_)
      refine wp_store_mid 38 _ _ rfl g3 0 (uV L 4).toArray rfl rfl hth2 sizeU2 (all_oneCell_toArray (uV_one L 4)) ?_
      refine hK.out _ _ hm2.range (fun _ => trivial) ?_
      clear hK K
      refine anyT_takeT (i := 8) (v := .bool true) rfl (by kernel_rfl) (by kernel_rfl) (by kernel_rfl) (by kernel_rfl) (fun _ _ _ h => h) (Or.inl ⟨by rfl, fun X hSw => by ((try dsimp only at hSw); go_simp)⟩) hm2.range (fun _ => trivial) ?_
      simp only [Act.put, List.getElem_toArray, List.getElem_cons_zero, List.getElem_cons_succ, List.setIfInBounds_toArray, List.set_cons_zero, List.set_cons_succ]
      refine anyT_done (by kernel_rfl) ?_ _
      refine NoPanic.normal ?_
      generalize World.setCells wY3 g3 0 _ = w5 at hp hn2 hr2 hm2 bel2 h32 ⊢
      have hrn := hn2.range
      have hr3 := h32.range
      have hws := hn2.lt
      clear hp hth2 h3_3 hlt3 hnw hrw hmw bel1 CP CL hn2 hm2 h32 hsk
      go_wp2_with (first | (refine wpList_load_mid rfl 38 _ rfl w.heap.size 0 rfl (uV (numU x) 4) _ hrn Try.underlying38 rfl sizeU ?_) | (refine wpList_load_mid rfl 38 _ rfl g3 0 rfl (uV L 4) _ hr3 Try.underlying38 rfl sizeU ?_))
      refine (CS _).mono ?_
      rintro e w6 ⟨rfl, b6⟩
      have hr6 := hr2.below b6
      have bel6 := below_on bel2 b6
      have hsz6 := b6.size
      clear hr2 bel2 b6 CS hrn hr3
      have hp := RowU.put hr6 (f' := V)
      have hth := RowU.there2 hr6 (f' := V)
      have hbel := Below.grown bel6 hp.2 (by omega) (fun k hk => by cases hk; exact hlo2)
      have hld := run_loadVar_mid (P := Try.prog) _ G2 0 38 _ _ hp.1.range Try.underlying38 rfl sizeU
      clear hp
      go_wp2_with (refine wpList_store_mid rfl 38 _ _ rfl G2 0 (uV V 4).toArray rfl rfl hth sizeU2 (all_oneCell_toArray (uV_one V 4)) ?_)
      (try simp only [Exit.inBlock, Exit.then])
      refine bodyPost_ret (v := .agg (uV V 4).toArray) ?_ rfl ⟨rfl, hbel⟩
      simp [results, asAddr, Act.put, hld]
    · go_simp
      have h3_4 := RowU.made wY1 38 4 LO (fun _ => 0) (by decide) (by rw [hLO.out]; exact Below.size kY1)
      rw [← hZ.out] at h3_4
      have bY4 : Below wY1.heap.size wY1 (wY1.alloc (.cells Z 38)) := (Below.refl _ _).alloc (Nat.le_refl _) _
      have kY4 := below_on kY1 bY4
      refine hK.out _ _ (hm.below kY4).range (fun _ => trivial) ?_
      clear hK K
      generalize wY1.alloc (.cells Z 38) = wY4 at h3_4 bY4 kY4 ⊢
      obtain ⟨g3, hg3⟩ : ∃ g3, g3 = wY1.heap.size := ⟨_, rfl⟩
      rw [← hg3] at h3_4 ⊢
      clear hg3
      refine anyT_one (i := 2) (by kernel_rfl) rfl (fun K hK => ?_)
      go_simp
      refine (CL _).mono ?_
      rintro e wY5 ⟨rfl, bY5⟩
      have kY5 := below_on kY4 bY5
      have h3_5 := RowU.below h3_4 bY5
      go_wp2_with (fail)
      refine hK.out _ _ (hm.below kY5).range (fun _ => trivial) ?_
      clear hK K
      refine anyT_takeT (i := 3) (v := .tuple #[.agg (uV L 4).toArray, .bool true]) rfl (by kernel_rfl) (by kernel_rfl) (by kernel_rfl) (by kernel_rfl) (fun _ _ _ h => h) (Or.inl ⟨by rfl, fun X hSw => by ((try dsimp only at hSw); go_simp)⟩) (hm.below kY5).range (fun _ => trivial) ?_
      simp only [Act.put, List.getElem_toArray, List.getElem_cons_zero, List.getElem_cons_succ, List.setIfInBounds_toArray, List.set_cons_zero, List.set_cons_succ]
      refine anyT_takeT (i := 4) (v := .agg (uV L 4).toArray) rfl (by kernel_rfl) (by kernel_rfl) (by kernel_rfl) (by kernel_rfl) (fun _ _ _ h => h) (Or.inl ⟨by rfl, fun X hSw => by ((try dsimp only at hSw); go_simp)⟩) (hm.below kY5).range (fun _ => trivial) ?_
      simp only [Act.put, List.getElem_toArray, List.getElem_cons_zero, List.getElem_cons_succ, List.setIfInBounds_toArray, List.set_cons_zero, List.set_cons_succ]
      refine anyT_takeT (i := 5) (v := .bool true) rfl (by kernel_rfl) (by kernel_rfl) (by kernel_rfl) (by kernel_rfl) (fun _ _ _ h => h) (Or.inl ⟨by rfl, fun X hSw => by ((try dsimp only at hSw); go_simp)⟩) (hm.below kY5).range (fun _ => trivial) ?_
      simp only [Act.put, List.getElem_toArray, List.getElem_cons_zero, List.getElem_cons_succ, List.setIfInBounds_toArray, List.set_cons_zero, List.set_cons_succ]
      have hp := RowU.put h3_5 (f' := L)
      have hth2 := RowU.there2 h3_5 (f' := L)
      have hlt3 := RowU.lt h3_5
      rw [hLO.out] at hlt3
      have hnw := hn.lt
      have hrw := hr.lt
      have hmw := hm.lt
      have hn2 := (hn.below kY5).kept hp.2 (by omega)
      have hr2 := (hr.below kY5).kept hp.2 (by omega)
      have hm2 := (hm.below kY5).kept hp.2 (by omega)
      have bel1 := below_on bel kY5
      have hsk := Below.size kY5
      have bel2 := bel1.grown hp.2 (by omega) (fun k hk => by cases hk; omega)
      have h32 := hp.1
      refine anyT_one (i := 7) (by kernel_rfl) rfl (fun K hK => ?_)
      refine wp_store_mid 38 _ _ rfl g3 0 (uV L 4).toArray rfl rfl hth2 sizeU2 (all_oneCell_toArray (uV_one L 4)) ?_
      refine hK.out _ _ hm2.range (fun _ => trivial) ?_
      clear hK K
      refine anyT_takeT (i := 8) (v := .bool true) rfl (by kernel_rfl) (by kernel_rfl) (by kernel_rfl) (by kernel_rfl) (fun _ _ _ h => h) (Or.inl ⟨by rfl, fun X hSw => by ((try dsimp only at hSw); go_simp)⟩) hm2.range (fun _ => trivial) ?_
      simp only [Act.put, List.getElem_toArray, List.getElem_cons_zero, List.getElem_cons_succ, List.setIfInBounds_toArray, List.set_cons_zero, List.set_cons_succ]
      refine anyT_done (by kernel_rfl) ?_ _
      refine NoPanic.normal ?_
      generalize World.setCells wY5 g3 0 _ = w5 at hp hn2 hr2 hm2 bel2 h32 ⊢
      have hrn := hn2.range
      have hr3 := h32.range
      have hws := hn2.lt
      clear hp hth2 h3_5 hlt3 hnw hrw hmw bel1 CP CL hn2 hm2 h32 hsk
      go_wp2_with (first | (refine wpList_load_mid rfl 38 _ rfl w.heap.size 0 rfl (uV (numU x) 4) _ hrn Try.underlying38 rfl sizeU ?_) | (refine wpList_load_mid rfl 38 _ rfl g3 0 rfl (uV L 4) _ hr3 Try.underlying38 rfl sizeU ?_))
      refine (CS _).mono ?_
      rintro e w6 ⟨rfl, b6⟩
      have hr6 := hr2.below b6
      have bel6 := below_on bel2 b6
      have hsz6 := b6.size
      clear hr2 bel2 b6 CS hrn hr3
      have hp := RowU.put hr6 (f' := V)
      have hth := RowU.there2 hr6 (f' := V)
      have hbel := Below.grown bel6 hp.2 (by omega) (fun k hk => by cases hk; exact hlo2)
      have hld := run_loadVar_mid (P := Try.prog) _ G2 0 38 _ _ hp.1.range Try.underlying38 rfl sizeU
      clear hp
      go_wp2_with (refine wpList_store_mid rfl 38 _ _ rfl G2 0 (uV V 4).toArray rfl rfl hth sizeU2 (all_oneCell_toArray (uV_one V 4)) ?_)
      (try simp only [Exit.inBlock, Exit.then])
      refine bodyPost_ret (v := .agg (uV V 4).toArray) ?_ rfl ⟨rfl, hbel⟩
      simp [results, asAddr, Act.put, hld]
  · go_simp
    have h3_6 := RowU.made W 38 4 LO (fun _ => 0) (by decide) (by rw [hLO.out]; exact Below.size kX)
    rw [← hZ.out] at h3_6
    have bY6 : Below W.heap.size W (W.alloc (.cells Z 38)) := (Below.refl _ _).alloc (Nat.le_refl _) _
    have kY6 := below_on kX bY6
    refine hK.out _ _ (hm.below kY6).range (fun _ => trivial) ?_
    clear hK K
    generalize W.alloc (.cells Z 38) = wY6 at h3_6 bY6 kY6 ⊢
    obtain ⟨g3, hg3⟩ : ∃ g3, g3 = W.heap.size := ⟨_, rfl⟩
    rw [← hg3] at h3_6 ⊢
    clear hg3
    refine anyT_one (i := 0) (by kernel_rfl) rfl (fun K hK => ?_)
    go_simp
    refine (CP _).mono ?_
    rintro e wY7 ⟨rfl, bY7⟩
    have kY7 := below_on kY6 bY7
    have h3_7 := RowU.below h3_6 bY7
    go_wp2_with (fail)
    refine hK.out _ _ (hm.below kY7).range (fun _ => trivial) ?_
    clear hK K
    refine anyT_one (i := 2) (by kernel_rfl) rfl (fun K hK => ?_)
    go_simp
    refine (CL _).mono ?_
    rintro e wY8 ⟨rfl, bY8⟩
    have kY8 := below_on kY7 bY8
    have h3_8 := RowU.below h3_7 bY8
    go_wp2_with (fail)
    refine hK.out _ _ (hm.below kY8).range (fun _ => trivial) ?_
    clear hK K
    refine anyT_takeT (i := 3) (v := .tuple #[.agg (uV L 4).toArray, .bool true]) rfl (by kernel_rfl) (by kernel_rfl) (by kernel_rfl) (by kernel_rfl) (fun _ _ _ h => h) (Or.inl ⟨by rfl, fun X hSw => by ((try dsimp only at hSw); go_simp)⟩) (hm.below kY8).range (fun _ => trivial) ?_
    simp only [Act.put, List.getElem_toArray, List.getElem_cons_zero, List.getElem_cons_succ, List.setIfInBounds_toArray, List.set_cons_zero, List.set_cons_succ]
    refine anyT_takeT (i := 4) (v := .agg (uV L 4).toArray) rfl (by kernel_rfl) (by kernel_rfl) (by kernel_rfl) (by kernel_rfl) (fun _ _ _ h => h) (Or.inl ⟨by rfl, fun X hSw => by ((try dsimp only at hSw); go_simp)⟩) (hm.below kY8).range (fun _ => trivial) ?_
    simp only [Act.put, List.getElem_toArray, List.getElem_cons_zero, List.getElem_cons_succ, List.setIfInBounds_toArray, List.set_cons_zero, List.set_cons_succ]
    refine anyT_takeT (i := 5) (v := .bool true) rfl (by kernel_rfl) (by kernel_rfl) (by kernel_rfl) (by kernel_rfl) (fun _ _ _ h => h) (Or.inl ⟨by rfl, fun X hSw => by ((try dsimp only at hSw); go_simp)⟩) (hm.below kY8).range (fun _ => trivial) ?_
    simp only [Act.put, List.getElem_toArray, List.getElem_cons_zero, List.getElem_cons_succ, List.setIfInBounds_toArray, List.set_cons_zero, List.set_cons_succ]
    have hp := RowU.put h3_8 (f' := L)
    have hth2 := RowU.there2 h3_8 (f' := L)
    have hlt3 := RowU.lt h3_8
    rw [hLO.out] at hlt3
    have hnw := hn.lt
    have hrw := hr.lt
    have hmw := hm.lt
    have hn2 := (hn.below kY8).kept hp.2 (by omega)
    have hr2 := (hr.below kY8).kept hp.2 (by omega)
    have hm2 := (hm.below kY8).kept hp.2 (by omega)
    have bel1 := below_on bel kY8
    have hsk := Below.size kY8
    have bel2 := bel1.grown hp.2 (by omega) (fun k hk => by cases hk; omega)
    have h32 := hp.1
    refine anyT_one (i := 7) (by kernel_rfl) rfl (fun K hK => ?_)
    refine wp_store_mid 38 _ _ rfl g3 0 (uV L 4).toArray rfl rfl hth2 sizeU2 (all_oneCell_toArray (uV_one L 4)) ?_
    refine hK.out _ _ hm2.range (fun _ => trivial) ?_
    clear hK K
    refine anyT_takeT (i := 8) (v := .bool true) rfl (by kernel_rfl) (by kernel_rfl) (by kernel_rfl) (by kernel_rfl) (fun _ _ _ h => h) (Or.inl ⟨by rfl, fun X hSw => by ((try dsimp only at hSw); go_simp)⟩) hm2.range (fun _ => trivial) ?_
    simp only [Act.put, List.getElem_toArray, List.getElem_cons_zero, List.getElem_cons_succ, List.setIfInBounds_toArray, List.set_cons_zero, List.set_cons_succ]
    refine anyT_done (by kernel_rfl) ?_ _
    refine NoPanic.normal ?_
    generalize World.setCells wY8 g3 0 _ = w5 at hp hn2 hr2 hm2 bel2 h32 ⊢
    have hrn := hn2.range
    have hr3 := h32.range
    have hws := hn2.lt
    clear hp hth2 h3_8 hlt3 hnw hrw hmw bel1 CP CL hn2 hm2 h32 hsk
    go_wp2_with (first | (refine wpList_load_mid rfl 38 _ rfl w.heap.size 0 rfl (uV (numU x) 4) _ hrn Try.underlying38 rfl sizeU ?_) | (refine wpList_load_mid rfl 38 _ rfl g3 0 rfl (uV L 4) _ hr3 Try.underlying38 rfl sizeU ?_))
    refine (CS _).mono ?_
    rintro e w6 ⟨rfl, b6⟩
    have hr6 := hr2.below b6
    have bel6 := below_on bel2 b6
    have hsz6 := b6.size
    clear hr2 bel2 b6 CS hrn hr3
    have hp := RowU.put hr6 (f' := V)
    have hth := RowU.there2 hr6 (f' := V)
    have hbel := Below.grown bel6 hp.2 (by omega) (fun k hk => by cases hk; exact hlo2)
    have hld := run_loadVar_mid (P := Try.prog) _ G2 0 38 _ _ hp.1.range Try.underlying38 rfl sizeU
    clear hp
    go_wp2_with (refine wpList_store_mid rfl 38 _ _ rfl G2 0 (uV V 4).toArray rfl rfl hth sizeU2 (all_oneCell_toArray (uV_one V 4)) ?_)
    (try simp only [Exit.inBlock, Exit.then])
    refine bodyPost_ret (v := .agg (uV V 4).toArray) ?_ rfl ⟨rfl, hbel⟩
    simp [results, asAddr, Act.put, hld]

end Go.Proofs.Ytghoibggmddkmao
