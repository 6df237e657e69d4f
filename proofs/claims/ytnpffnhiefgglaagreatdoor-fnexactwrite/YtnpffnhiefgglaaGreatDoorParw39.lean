/-
  A part of the proof.
-/
import Derived.Test.YtnpffnhiefgglaaGreatDoorParw37
import Derived.Test.YtnpffnhiefgglaaGreatDoorParw35
import Derived.Test.YtnpffnhiefgglaaGreatDoorParw38
import Derived.Test.YtnpffnhiefgglaaGreatDoorParw32
import Derived.ScopeJumps
import Derived.WalkMore
namespace Go.Proofs.YtnpffnhiefgglaaGreatDoor
open Go.RowKit
set_option maxRecDepth 100000
theorem modP_range (z : Int) : 0 ≤ z % fldP ∧ z % fldP < fldP := ⟨Int.emod_nonneg _ (by have := fldP_pos; omega), Int.emod_lt_of_pos _ fldP_pos⟩
theorem modP_b4 (z : Int) : 0 ≤ z % fldP ∧ z % fldP < bU ^ 4 := by
  have h := modP_range z
  have := b4U
  omega
theorem powP_mul (x : Int) (a b : Nat) : (x ^ a % fldP) * (x ^ b % fldP) % fldP = x ^ (a + b) % fldP := by
  rw [left_mul, right_mul, ← Int.pow_add]
theorem powP_pow (x : Int) (a b : Nat) : (x ^ a % fldP) ^ b % fldP = x ^ (a * b) % fldP := by
  rw [left_pow, ← Int.pow_mul]
theorem two_pos (a : Nat) : 1 ≤ 2 ^ a := Nat.one_le_two_pow
set_option maxHeartbeats 8000000 in
theorem squared_any (x : Int) (n : Nat) (w : World) (hx0 : 0 ≤ x) (hx : x < fldP) (hn : n ≤ 1000) :
    Calls Tryz.prog 132 #[uP x, .int .i64 (n : Int)] w fun e w' => e = .returned (uP (x ^ 2 ^ n % fldP)) ∧ Below w.heap.size w w' := by
  have HV : Hid (∀ k, numU (x ^ 2 ^ k % fldP * (x ^ 2 ^ k % fldP) % fldP) = numU (x ^ 2 ^ (k + 1) % fldP)) := fun k => by
    show numU _ = _
    rw [powP_mul, Nat.pow_succ, Nat.mul_two]
  have CT : Hid (∀ k X, Calls Tryz.prog 96 #[uP (x ^ 2 ^ k % fldP), uP (x ^ 2 ^ k % fldP)] X fun e w' => e = .returned (uP (x ^ 2 ^ k % fldP * (x ^ 2 ^ k % fldP) % fldP)) ∧ Below X.heap.size X w') := fun k X => fieldTimes_any _ _ X (modP_b4 _).1 (modP_b4 _).2 (modP_b4 _).1 (modP_b4 _).2
  have h0 : numU (x ^ 2 ^ 0 % fldP) = numU x := by rw [Nat.pow_zero, Int.pow_one, Int.emod_eq_of_lt hx0 hx]
  replace h0 : Hid (numU (x ^ 2 ^ 0 % fldP) = numU x) := h0
  clear hx0 hx
  have hz := (zero_of_info infoU4).1
  unfold uP
  obtain ⟨V, hV⟩ : ∃ V, V = numU (x ^ 2 ^ n % fldP) := ⟨_, rfl⟩
  rw [← hV]
  replace hV : Hid (V = numU (x ^ 2 ^ n % fldP)) := hV
  unfold uP at CT
  obtain ⟨A, hA⟩ : ∃ A, A = (uV (numU x) 4).toArray := ⟨_, rfl⟩
  obtain ⟨Z, hZ⟩ : ∃ Z, Z = (uV (fun _ => 0) 4).toArray := ⟨_, rfl⟩
  obtain ⟨m0, m1, bel0, sz⟩ := rows2 w (numU x) (fun _ => 0) hA hZ
  rw [← hA]
  rw [← hZ] at hz
  clear hA
  replace hZ : Hid (Z = (uV (fun _ => 0) 4).toArray) := hZ
  go_enter Tryz.func132, Tryz.ntmps132
  go_wp2_with (fail)
  obtain ⟨G1, hG1⟩ : ∃ G1, G1 = w.heap.size + 1 := ⟨_, rfl⟩
  rw [← hG1] at m1 sz ⊢
  generalize (w.alloc (.cells A 112)).alloc (.cells Z 112) = wb at m0 m1 bel0 sz ⊢
  have hne : w.heap.size ≠ G1 := by omega
  have hloR : w.heap.size ≤ G1 := by omega
  clear hG1 sz
  clear hZ
  rw [← h0.out] at m0
  go_loopw [6] (fun i wr => ∃ k : Nat, k ≤ n ∧ i = .int .i64 k ∧ RowU 112 4 wr w.heap.size w.heap.size (numU (x ^ 2 ^ k % fldP)) ∧ RowU 112 4 wr w.heap.size G1 (fun _ => 0) ∧ Below w.heap.size w wr)
    (fun i _ => n - (intOf i).toNat)
  case atStart => exact ⟨0, by omega, rfl, m0, m1, bel0⟩
  case round =>
    clear m0 m1 bel0 h0
    obtain ⟨k, hk, rfl, hn0, hr, bel⟩ := hrel
    by_cases hlt : k < n
    · have hlt' : (k : Int) < (n : Int) := by omega
      have C := CT.out k
      simp only [HV.out k] at C
      obtain ⟨U, hU⟩ : ∃ U, U = numU (x ^ 2 ^ (k + 1) % fldP) := ⟨_, rfl⟩
      rw [← hU] at C
      replace hU : Hid (U = numU (x ^ 2 ^ (k + 1) % fldP)) := hU
      generalize numU (x ^ 2 ^ k % fldP) = F at hn0 C
      have hra := hn0.range
      go_wp2_with (refine wpList_load_mid rfl 112 _ rfl w.heap.size 0 rfl (uV F 4) _ hra Tryz.underlying112 rfl sizeU ?_)
      refine (C _).mono ?_
      rintro e w2 ⟨rfl, b2⟩
      have hn2 := hn0.below b2
      have hr2 := hr.below b2
      have bel2 := below_on bel b2
      have hp := hn2.put (f' := U)
      have hth := hn2.there2 (f' := U)
      have hr3 := hr2.kept hp.2 hne.symm
      have hws := hn2.lt
      have bel3 := bel2.grown hp.2 (by omega) (fun k hk => by cases hk; exact Nat.le_refl _)
      have hn3 := hp.1
      clear hp hra hn0 hr bel b2 hn2 hr2 bel2 C
      go_wp2_with (refine wpList_store_mid rfl 112 _ _ rfl w.heap.size 0 (uV U 4).toArray rfl rfl hth sizeU2 (all_oneCell_toArray (uV_one U 4)) ?_)
      go_roundw
      case rel => exact ⟨k + 1, by omega, by go_num, by rw [← hU.out]; exact hn3, hr3, bel3⟩
      case measure => simp [intOf]; omega
    · obtain rfl : k = n := by omega
      have hno : ¬ (k : Int) < (k : Int) := by omega
      rw [← hV.out] at hn0
      have hra := hn0.range
      have hws := hn0.lt
      clear CT HV hV hn0
      have hra2 := hra
      have hp := RowU.put hr (f' := V)
      have hth := RowU.there2 hr (f' := V)
      have hbel := Below.grown bel hp.2 (by omega) (fun k hk => by cases hk; exact hloR)
      have hld := run_loadVar_mid (P := Tryz.prog) _ G1 0 112 _ _ hp.1.range Tryz.underlying112 rfl sizeU
      clear hp
      go_wp2_with (first | (refine wpList_load_mid rfl 112 _ rfl w.heap.size 0 rfl (uV V 4) _ hra2 Tryz.underlying112 rfl sizeU ?_) | (refine wpList_store_mid rfl 112 _ _ rfl G1 0 (uV V 4).toArray rfl rfl hth sizeU2 (all_oneCell_toArray (uV_one V 4)) ?_))
      (try simp only [Exit.inBlock, Exit.then])
      refine bodyPost_ret (v := .agg (uV V 4).toArray) ?_ rfl ⟨rfl, hbel⟩
      simp [results, asAddr, hld]
set_option maxHeartbeats 8000000 in
theorem plus_any (x y : Int) (w : World) (hx0 : 0 ≤ x) (hy0 : 0 ≤ y) (hs : x + y < bU ^ 4) :
    Calls Tryz.prog 177 #[uP x, uP y] w fun e w' => e = .returned (uP ((x + y) % fldP)) ∧ Below w.heap.size w w' := by
  have HC : Hid (∀ k, 0 ≤ carU (plusT x y) 0 k ∧ carU (plusT x y) 0 k < bU) := fun k => carU_le (plusT_le x y) (by decide) k
  have HD : Hid (∀ k, k < 4 → digU (plusT x y) 0 k = numU (x + y) k) := fun k hk => dig_plus hx0 (by omega) hy0 (by omega) hk
  have CR := fun X => rest_any (x + y) X (by omega) hs
  clear hx0 hy0 hs
  unfold uP at CR
  have hz := (zero_of_info infoU4).1
  unfold uP
  obtain ⟨V, hV⟩ : ∃ V, V = numU ((x + y) % fldP) := ⟨_, rfl⟩
  rw [← hV] at CR ⊢
  clear hV
  obtain ⟨U, hU⟩ : ∃ U, U = numU (x + y) := ⟨_, rfl⟩
  rw [← hU] at CR HD
  clear hU
  obtain ⟨A, hA⟩ : ∃ A, A = (uV (numU x) 4).toArray := ⟨_, rfl⟩
  obtain ⟨B, hB⟩ : ∃ B, B = (uV (numU y) 4).toArray := ⟨_, rfl⟩
  obtain ⟨Z, hZ⟩ : ∃ Z, Z = (uV (fun _ => 0) 4).toArray := ⟨_, rfl⟩
  obtain ⟨m0, m1, m2, bel, sz⟩ := rows3 w (numU x) (numU y) (fun _ => 0) hA hB hZ
  rw [← hA, ← hB]
  rw [← hZ] at hz
  clear hA hB hZ
  go_enter Tryz.func177, Tryz.ntmps177
  go_wp2_with (fail)
  obtain ⟨G1, hG1⟩ : ∃ G1, G1 = w.heap.size + 1 := ⟨_, rfl⟩
  obtain ⟨G2, hG2⟩ : ∃ G2, G2 = G1 + 1 := ⟨_, rfl⟩
  rw [← hG1] at m1 m2 sz ⊢
  rw [← hG2] at m2 sz ⊢
  generalize ((w.alloc (.cells A 112)).alloc (.cells B 112)).alloc (.cells Z 112) = wb at m0 m1 m2 bel sz ⊢
  refine (sums_any 0 _).mono ?_
  rintro e w1 ⟨rfl, rfl⟩
  have mo := overRow wb w.heap.size 0 (by omega)
  obtain ⟨GO, hGO⟩ : ∃ GO, GO = wb.heap.size := ⟨_, rfl⟩
  rw [← hGO] at mo ⊢
  generalize wb.alloc (.cells #[.int .u64 0] 110) = wc at mo ⊢
  have bo : Below wb.heap.size wb wc := by rw [← hGO]; exact mo.2
  have DS : Apart4 w.heap.size G1 G2 GO := ⟨by omega, by omega, by omega, by omega, by omega, by omega⟩
  have hI0 : SumI w w.heap.size w.heap.size G1 G2 GO (numU x) (numU y) (fun _ => 0) 0 wc := ⟨m0.below bo, m1.below bo, m2.below bo, mo.1, below_on bel bo⟩
  have hloR : w.heap.size ≤ G2 := by omega
  clear m0 m1 m2 mo bo bel sz hG1 hG2 hGO hz
  unfold tellV
  go_wp2_with (fail)
  go_loopw [8] (fun i wr => ∃ k : Nat, k ≤ 4 ∧ i = .int .i64 k ∧ SumI w w.heap.size w.heap.size G1 G2 GO (mixU (digU (plusT x y) 0) (numU x) k) (numU y) (fun _ => 0) (carU (plusT x y) 0 k) wr)
    (fun i _ => 4 - (intOf i).toNat)
  case atStart => exact ⟨0, by omega, rfl, hI0.congr fun i _ => (mixU_zero _ _ i).symm⟩
  case round =>
    clear hI0
    obtain ⟨k, hk, rfl, hI⟩ := hrel
    by_cases hlt : k < 4
    · have hlt' : (k : Int) < 4 := by omega
      have hD := hI.drew
      obtain ⟨wX, hwX⟩ : ∃ wX, wX = wr.drew := ⟨_, rfl⟩
      rw [← hwX] at hD
      have cn := hD.n.cell k hlt
      rw [mixU_at] at cn
      have cm := hD.m.cell k hlt
      have co := hD.o.cell 0 (by decide)
      have fo := hD.o.frozen 0
      have fn0 := hD.n.frozen k
      have la := numU_range x k
      have lb := numU_range y k
      have lc := HC.out k
      have h2 := (hD.tell DS (carU (plusT x y) 0 (k + 1))).store DS k (digU (plusT x y) 0 k)
      replace h2 := h2.congr fun i _ => mixU_step (digU (plusT x y) 0) (numU x) k i
      have h1 := hD.tell DS (carU (plusT x y) 0 (k + 1))
      have cn1 := h1.n.cell k hlt
      rw [mixU_at] at cn1
      have cm1 := h1.m.cell k hlt
      have fn1 := h1.n.frozen k
      have cm2 := h2.m.cell k hlt
      have EQ : Hid (plusT x y k = numU x k + numU y k * 1) := by show numU x k + numU y k = _; (try unfold bU); omega
      have CT := fun h h' => tell_any GO (numU x k) (numU y k) 1 (carU (plusT x y) 0 k) (digU (plusT x y) 0 k) (carU (plusT x y) 0 (k + 1)) wX la (by unfold bU at lb ⊢; omega) (by decide) lc (by rw [← EQ.out]; rfl) (by rw [← EQ.out]; rfl) h h'
      have CT' := CT co fo
      clear CT EQ
      have ld := digU_range (plusT x y) 0 k
      obtain ⟨o, ho⟩ : ∃ o, o = carU (plusT x y) 0 (k + 1) := ⟨_, rfl⟩
      rw [← ho] at CT' h1 h2 cn1 cm1 cm2 fn1
      replace ho : Hid (o = carU (plusT x y) 0 (k + 1)) := ho
      generalize digU (plusT x y) 0 k = r at CT' h2 cm2 ld
      generalize numU x k = a at cn cn1 CT' la
      generalize numU y k = b at cm cm1 cm2 CT' lb
      generalize carU (plusT x y) 0 k = cc at co lc
      unfold bU at la lb lc ld
      clear co fo hI h1 hD
      replace hwX : Hid (wX = wr.drew) := hwX
      go_wp2_with (fail)
      refine wp_region_noPanic ?_
      refine wp_region_T 10 (fun X => X.cell? ⟨G1, k, none⟩ = some (.int .u64 b)) (fun X => X.cell? ⟨w.heap.size, k, none⟩ = some (.int .u64 a)) (by kernel_rfl) ?_
      rw [← hwX.out]
      clear hwX
      refine anyT_takeT (i := 0) (v := .int .i64 (k : Int)) rfl (by kernel_rfl) (by kernel_rfl) (by kernel_rfl) (by kernel_rfl) (fun _ _ _ h => h) (Or.inl ⟨by rfl, fun X hSw => by ((try dsimp only at hSw); go_simp)⟩) cm (fun _ => cn) ?_
      simp only [Act.put, List.getElem_toArray, List.getElem_cons_zero, List.setIfInBounds_toArray, List.set_cons_zero, List.set_cons_succ]
      refine anyT_takeT (i := 1) (v := tellV GO) rfl (by kernel_rfl) (by kernel_rfl) (by kernel_rfl) (by kernel_rfl) (fun _ _ _ h => h) (Or.inl ⟨by rfl, fun X hSw => by ((try dsimp only at hSw); unfold tellV; go_simp)⟩) cm (fun _ => cn) ?_
      simp only [Act.put, List.getElem_toArray, List.getElem_cons_zero, List.getElem_cons_succ, List.setIfInBounds_toArray, List.set_cons_zero, List.set_cons_succ]
      refine anyT_takeT (i := 2) (v := .int .i64 (k : Int)) rfl (by kernel_rfl) (by kernel_rfl) (by kernel_rfl) (by kernel_rfl) (fun _ _ _ h => h) (Or.inl ⟨by rfl, fun X hSw => by ((try dsimp only at hSw); go_simp)⟩) cm (fun _ => cn) ?_
      simp only [Act.put, List.getElem_toArray, List.getElem_cons_zero, List.getElem_cons_succ, List.setIfInBounds_toArray, List.set_cons_zero, List.set_cons_succ]
      refine anyT_takeT (i := 3) (v := .pointer (some ⟨w.heap.size, k, none⟩)) rfl (by kernel_rfl) (by kernel_rfl) (by kernel_rfl) (by kernel_rfl) (fun _ _ _ h => h) (Or.inl ⟨by rfl, fun X hSw => by ((try dsimp only at hSw); go_simp)⟩) cm (fun _ => cn) ?_
      simp only [Act.put, List.getElem_toArray, List.getElem_cons_zero, List.getElem_cons_succ, List.setIfInBounds_toArray, List.set_cons_zero, List.set_cons_succ]
      refine anyT_takeS (i := 4) (v := .int .u64 a) rfl rfl (by kernel_rfl) (by kernel_rfl) (by kernel_rfl) (by kernel_rfl) (by kernel_rfl) (fun _ _ _ h => h) (Or.inl ⟨by rfl, fun X hSw => by (obtain ⟨q0, q1⟩ := hSw; go_simp)⟩) cm cn ?_
      simp only [Act.put, List.getElem_toArray, List.getElem_cons_zero, List.getElem_cons_succ, List.setIfInBounds_toArray, List.set_cons_zero, List.set_cons_succ]
      refine anyT_takeT (i := 5) (v := .int .i64 (k : Int)) rfl (by kernel_rfl) (by kernel_rfl) (by kernel_rfl) (by kernel_rfl) (fun _ _ _ h => h) (Or.inl ⟨by rfl, fun X hSw => by ((try dsimp only at hSw); go_simp)⟩) cm (fun _ => cn) ?_
      simp only [Act.put, List.getElem_toArray, List.getElem_cons_zero, List.getElem_cons_succ, List.setIfInBounds_toArray, List.set_cons_zero, List.set_cons_succ]
      refine anyT_takeT (i := 6) (v := .pointer (some ⟨G1, k, none⟩)) rfl (by kernel_rfl) (by kernel_rfl) (by kernel_rfl) (by kernel_rfl) (fun _ _ _ h => h) (Or.inl ⟨by rfl, fun X hSw => by ((try dsimp only at hSw); go_simp)⟩) cm (fun _ => cn) ?_
      simp only [Act.put, List.getElem_toArray, List.getElem_cons_zero, List.getElem_cons_succ, List.setIfInBounds_toArray, List.set_cons_zero, List.set_cons_succ]
      refine anyT_takeT (i := 7) (v := .int .u64 b) rfl (by kernel_rfl) (by kernel_rfl) (by kernel_rfl) (by kernel_rfl) (fun _ _ _ h => h) (Or.inl ⟨by rfl, fun X hSw => by ((try dsimp only at hSw); go_simp)⟩) cm (fun _ => cn) ?_
      simp only [Act.put, List.getElem_toArray, List.getElem_cons_zero, List.getElem_cons_succ, List.setIfInBounds_toArray, List.set_cons_zero, List.set_cons_succ]
      refine anyT_one (i := 8) (by kernel_rfl) rfl (fun K hK => ?_)
      unfold tellV
      go_simp
      refine CT'.mono ?_
      rintro e w9 ⟨rfl, rfl⟩
      go_wp2_with (fail)
      refine hK.out _ _ cm1 (fun _ => cn1) ?_
      clear hK K
      refine anyT_takeT (i := 9) (v := .pointer (some ⟨w.heap.size, k, none⟩)) rfl (by kernel_rfl) (by kernel_rfl) (by kernel_rfl) (by kernel_rfl) (fun _ _ _ h => h) (Or.inl ⟨by rfl, fun X hSw => by ((try dsimp only at hSw); go_simp)⟩) cm1 (fun _ => cn1) ?_
      simp only [Act.put, List.getElem_toArray, List.getElem_cons_zero, List.getElem_cons_succ, List.setIfInBounds_toArray, List.set_cons_zero, List.set_cons_succ]
      refine anyT_one (i := 10) (by kernel_rfl) rfl (fun K hK => ?_)
      go_simp
      refine hK.out _ _ cm2 (fun h => by cases h) ?_
      clear hK K
      refine anyT_done (by kernel_rfl) ?_ _
      refine NoPanic.normal ?_
      clear cm cn cm1 cn1 fn0 fn1 cm2 CT'
      go_wp2_with (fail)
      go_roundw
      case rel => exact ⟨k + 1, by omega, by go_num, by rw [← ho.out]; exact h2⟩
      case measure => simp [intOf]; omega
    · obtain rfl : k = 4 := by omega
      have hno : ¬ ((4 : Nat) : Int) < 4 := by omega
      replace hI := hI.congr (f' := U) fun i hi => by rw [mixU_end _ _ hi, HD.out i hi]
      have hra := hI.n.range
      have hr := hI.r
      have bel := hI.b
      have hsw := hI.n.lt
      clear HC HD hI
      go_wp2_with (refine wpList_load_mid rfl 112 _ rfl w.heap.size 0 rfl (uV U 4) _ hra Tryz.underlying112 rfl sizeU ?_)
      refine (CR _).mono ?_
      rintro e w2 ⟨rfl, b2⟩
      have hr2 := hr.below b2
      have bel2 := below_on bel b2
      have hsz5 := b2.size
      clear hr bel hra b2 CR
      have hp := RowU.put hr2 (f' := V)
      have hth := RowU.there2 hr2 (f' := V)
      have hbel := Below.grown bel2 hp.2 (by omega) (fun k hk => by cases hk; exact hloR)
      have hld := run_loadVar_mid (P := Tryz.prog) _ G2 0 112 _ _ hp.1.range Tryz.underlying112 rfl sizeU
      clear hp
      go_wp2_with (refine wpList_store_mid rfl 112 _ _ rfl G2 0 (uV V 4).toArray rfl rfl hth sizeU2 (all_oneCell_toArray (uV_one V 4)) ?_)
      (try simp only [Exit.inBlock, Exit.then])
      refine bodyPost_ret (v := .agg (uV V 4).toArray) ?_ rfl ⟨rfl, hbel⟩
      simp [results, asAddr, Act.put, hld]
set_option maxHeartbeats 8000000 in
theorem minus_any (x y : Int) (w : World) (hx0 : 0 ≤ x) (hx : x < fldP) (hy0 : 0 ≤ y) (hy : y < fldP) :
    Calls Tryz.prog 178 #[uP x, uP y] w fun e w' => e = .returned (uP ((x - y) % fldP)) ∧ Below w.heap.size w w' := by
  have h4 := b4U
  have CP := fun X => fieldP_any X
  have CL := fun X => less_any fldP y X (by omega) (by omega) hy0 (by omega)
  have CS := fun X => plus_any x (fldP - y) X hx0 (by omega) (by omega)
  have e1 : (fldP - y) % bU ^ 4 = fldP - y := Int.emod_eq_of_lt (by omega) (by omega)
  have e2 : (x + (fldP - y)) % fldP = (x - y) % fldP := by rw [show x + (fldP - y) = (x - y) + fldP by omega, Int.add_emod_right]
  have e3 : decide (y ≤ fldP) = true := by simp; omega
  rw [e1, e3] at CL
  simp only [e2] at CS
  clear hx0 hx hy0 hy h4 e1 e2 e3
  unfold uP at CP CL CS
  have hz := (zero_of_info infoU4).1
  unfold uP
  obtain ⟨V, hV⟩ : ∃ V, V = numU ((x - y) % fldP) := ⟨_, rfl⟩
  rw [← hV] at CS ⊢
  clear hV
  obtain ⟨L, hL⟩ : ∃ L, L = numU (fldP - y) := ⟨_, rfl⟩
  rw [← hL] at CS CL
  clear hL
  obtain ⟨A, hA⟩ : ∃ A, A = (uV (numU x) 4).toArray := ⟨_, rfl⟩
  obtain ⟨B, hB⟩ : ∃ B, B = (uV (numU y) 4).toArray := ⟨_, rfl⟩
  obtain ⟨Z, hZ⟩ : ∃ Z, Z = (uV (fun _ => 0) 4).toArray := ⟨_, rfl⟩
  obtain ⟨m0, m1, m2, bel, sz⟩ := rows3 w (numU x) (numU y) (fun _ => 0) hA hB hZ
  rw [← hA, ← hB]
  rw [← hZ] at hz
  clear hA hB
  replace hZ : Hid (Z = (uV (fun _ => 0) 4).toArray) := hZ
  go_enter Tryz.func178, Tryz.ntmps178
  go_wp2_with (fail)
  obtain ⟨G1, hG1⟩ : ∃ G1, G1 = w.heap.size + 1 := ⟨_, rfl⟩
  obtain ⟨G2, hG2⟩ : ∃ G2, G2 = G1 + 1 := ⟨_, rfl⟩
  rw [← hG1] at m1 m2 sz ⊢
  rw [← hG2] at m2 sz ⊢
  generalize ((w.alloc (.cells A 112)).alloc (.cells B 112)).alloc (.cells Z 112) = wb at m0 m1 m2 bel sz ⊢
  have hn := m0.drew
  have hm := m1.drew
  have hr := m2.drew
  replace bel := bel.drew
  have hlo2 : w.heap.size ≤ G2 := by omega
  clear m0 m1 m2 sz hG1 hG2
  obtain ⟨W, hW⟩ : ∃ W, W = wb.drew := ⟨_, rfl⟩
  rw [← hW] at hn hm hr bel
  replace hW : Hid (W = wb.drew) := hW
  refine wp_region_noPanic ?_
  refine wp_region_T 99 (fun X => X.rangeAt G1 0 (uV (numU y) 4)) (fun _ => True) (by kernel_rfl) ?_
  rw [← hW.out]
  clear hW
  have kX : Below W.heap.size W W := Below.refl _ _
  have hLO : Hid (∃ LO, LO = W.heap.size) := ⟨_, rfl⟩
  obtain ⟨LO, hLO⟩ := hLO.out
  replace hLO : Hid (LO = W.heap.size) := hLO
  refine anyT_takeT (i := 1) rfl (by kernel_rfl) (by kernel_rfl) (by kernel_rfl) (by kernel_rfl) (fun _ _ _ h => h) (yieldsIf_load_mid (by rfl) _ _ rfl _ _ rfl (uV (numU y) 4) _ (fun _ hw => hw) Tryz.underlying112 rfl sizeU) (hm.below kX).range (fun _ => trivial) ?_
  simp only [Act.put, List.getElem_toArray, List.getElem_cons_zero, List.getElem_cons_succ, List.setIfInBounds_toArray, List.set_cons_zero, List.set_cons_succ]
  refine anyT_two (i := 0) (j := 6) (by kernel_rfl) rfl rfl (fun K hK => ?_) (fun K hK => ?_)
  · go_simp
    refine (CP _).mono ?_
    rintro e wY1 ⟨rfl, bY1⟩
    have kY1 := below_on kX bY1
    go_wp2_with (fail)
    refine hK.out _ _ (hm.below kY1).range (fun _ => trivial) ?_
    clear hK K
    refine anyT_two (i := 2) (j := 6) (by kernel_rfl) rfl rfl (fun K hK => ?_) (fun K hK => ?_)
    · go_simp
      refine (CL _).mono ?_
      rintro e wY2 ⟨rfl, bY2⟩
      have kY2 := below_on kY1 bY2
      go_wp2_with (fail)
      refine hK.out _ _ (hm.below kY2).range (fun _ => trivial) ?_
      clear hK K
      refine anyT_takeT (i := 3) (v := .tuple #[.agg (uV L 4).toArray, .bool true]) rfl (by kernel_rfl) (by kernel_rfl) (by kernel_rfl) (by kernel_rfl) (fun _ _ _ h => h) (Or.inl ⟨by rfl, fun X hSw => by ((try dsimp only at hSw); go_simp)⟩) (hm.below kY2).range (fun _ => trivial) ?_
      simp only [Act.put, List.getElem_toArray, List.getElem_cons_zero, List.getElem_cons_succ, List.setIfInBounds_toArray, List.set_cons_zero, List.set_cons_succ]
      refine anyT_takeT (i := 4) (v := .agg (uV L 4).toArray) rfl (by kernel_rfl) (by kernel_rfl) (by kernel_rfl) (by kernel_rfl) (fun _ _ _ h => h) (Or.inl ⟨by rfl, fun X hSw => by ((try dsimp only at hSw); go_simp)⟩) (hm.below kY2).range (fun _ => trivial) ?_
      simp only [Act.put, List.getElem_toArray, List.getElem_cons_zero, List.getElem_cons_succ, List.setIfInBounds_toArray, List.set_cons_zero, List.set_cons_succ]
      refine anyT_takeT (i := 5) (v := .bool true) rfl (by kernel_rfl) (by kernel_rfl) (by kernel_rfl) (by kernel_rfl) (fun _ _ _ h => h) (Or.inl ⟨by rfl, fun X hSw => by ((try dsimp only at hSw); go_simp)⟩) (hm.below kY2).range (fun _ => trivial) ?_
      simp only [Act.put, List.getElem_toArray, List.getElem_cons_zero, List.getElem_cons_succ, List.setIfInBounds_toArray, List.set_cons_zero, List.set_cons_succ]
      refine anyT_one (i := 6) (by kernel_rfl) rfl (fun K hK => ?_)
      go_simp
      have h3_3 := RowU.made wY2 112 4 LO (fun _ => 0) (by decide) (by rw [hLO.out]; exact Below.size kY2)
      rw [← hZ.out] at h3_3
      have bY3 : Below wY2.heap.size wY2 (wY2.alloc (.cells Z 112)) := (Below.refl _ _).alloc (Nat.le_refl _) _
      have kY3 := below_on kY2 bY3
      refine hK.out _ _ (hm.below kY3).range (fun _ => trivial) ?_
      clear hK K
      generalize wY2.alloc (.cells Z 112) = wY3 at h3_3 bY3 kY3 ⊢
      obtain ⟨g3, hg3⟩ : ∃ g3, g3 = wY2.heap.size := ⟨_, rfl⟩
      rw [← hg3] at h3_3 ⊢
      clear hg3
      have hp := RowU.put h3_3 (f' := L)
      have hth2 := RowU.there2 h3_3 (f' := L)
      have hlt3 := RowU.lt h3_3
      rw [hLO.out] at hlt3
      have hnw := hn.lt
      have hrw := hr.lt
      have hmw := hm.lt
      have hn2 := (hn.below kY3).kept hp.2 (by omega)
      have hr2 := (hr.below kY3).kept hp.2 (by omega)
      have hm2 := (hm.below kY3).kept hp.2 (by omega)
      have bel1 := below_on bel kY3
      have hsk := Below.size kY3
      have bel2 := bel1.grown hp.2 (by omega) (fun k hk => by cases hk; omega)
      have h32 := hp.1
      refine anyT_one (i := 7) (by kernel_rfl) rfl (fun K hK => ?_)
      refine wp_store_mid 112 _ _ rfl g3 0 (uV L 4).toArray rfl rfl hth2 sizeU2 (all_oneCell_toArray (uV_one L 4)) ?_
      refine hK.out _ _ hm2.range (fun _ => trivial) ?_
      clear hK K
      refine anyT_takeT (i := 8) (v := .bool true) rfl (by kernel_rfl) (by kernel_rfl) (by kernel_rfl) (by kernel_rfl) (fun _ _ _ h => h) (Or.inl ⟨by rfl, fun X hSw => by ((try dsimp only at hSw); go_simp)⟩) hm2.range (fun _ => trivial) ?_
      simp only [Act.put, List.getElem_toArray, List.getElem_cons_zero, List.getElem_cons_succ, List.setIfInBounds_toArray, List.set_cons_zero, List.set_cons_succ]
      refine anyT_done (by kernel_rfl) ?_ _
      refine NoPanic.normal ?_
      generalize World.setCells wY3 g3 0 _ = w5 at hp hn2 hr2 hm2 bel2 h32 ⊢
      have hrn := hn2.range
      have hr3 := h32.range
      have hws := hn2.lt
      clear hp hth2 h3_3 hlt3 hnw hrw hmw bel1 CP CL hn2 hm2 h32 hsk
      go_wp2_with (first | (refine wpList_load_mid rfl 112 _ rfl w.heap.size 0 rfl (uV (numU x) 4) _ hrn Tryz.underlying112 rfl sizeU ?_) | (refine wpList_load_mid rfl 112 _ rfl g3 0 rfl (uV L 4) _ hr3 Tryz.underlying112 rfl sizeU ?_))
      refine (CS _).mono ?_
      rintro e w6 ⟨rfl, b6⟩
      have hr6 := hr2.below b6
      have bel6 := below_on bel2 b6
      have hsz6 := b6.size
      clear hr2 bel2 b6 CS hrn hr3
      have hp := RowU.put hr6 (f' := V)
      have hth := RowU.there2 hr6 (f' := V)
      have hbel := Below.grown bel6 hp.2 (by omega) (fun k hk => by cases hk; exact hlo2)
      have hld := run_loadVar_mid (P := Tryz.prog) _ G2 0 112 _ _ hp.1.range Tryz.underlying112 rfl sizeU
      clear hp
      go_wp2_with (refine wpList_store_mid rfl 112 _ _ rfl G2 0 (uV V 4).toArray rfl rfl hth sizeU2 (all_oneCell_toArray (uV_one V 4)) ?_)
      (try simp only [Exit.inBlock, Exit.then])
      refine bodyPost_ret (v := .agg (uV V 4).toArray) ?_ rfl ⟨rfl, hbel⟩
      simp [results, asAddr, Act.put, hld]
    · go_simp
      have h3_4 := RowU.made wY1 112 4 LO (fun _ => 0) (by decide) (by rw [hLO.out]; exact Below.size kY1)
      rw [← hZ.out] at h3_4
      have bY4 : Below wY1.heap.size wY1 (wY1.alloc (.cells Z 112)) := (Below.refl _ _).alloc (Nat.le_refl _) _
      have kY4 := below_on kY1 bY4
      refine hK.out _ _ (hm.below kY4).range (fun _ => trivial) ?_
      clear hK K
      generalize wY1.alloc (.cells Z 112) = wY4 at h3_4 bY4 kY4 ⊢
      obtain ⟨g3, hg3⟩ : ∃ g3, g3 = wY1.heap.size := ⟨_, rfl⟩
      rw [← hg3] at h3_4 ⊢
      clear hg3
      refine anyT_one (i := 2) (by kernel_rfl) rfl (fun K hK => ?_)
      go_simp
      refine (CL _).mono ?_
      rintro e wY5 ⟨rfl, bY5⟩
      have kY5 := below_on kY4 bY5
      have h3_5 := RowU.below h3_4 bY5
      go_wp2_with (fail)
      refine hK.out _ _ (hm.below kY5).range (fun _ => trivial) ?_
      clear hK K
      refine anyT_takeT (i := 3) (v := .tuple #[.agg (uV L 4).toArray, .bool true]) rfl (by kernel_rfl) (by kernel_rfl) (by kernel_rfl) (by kernel_rfl) (fun _ _ _ h => h) (Or.inl ⟨by rfl, fun X hSw => by ((try dsimp only at hSw); go_simp)⟩) (hm.below kY5).range (fun _ => trivial) ?_
      simp only [Act.put, List.getElem_toArray, List.getElem_cons_zero, List.getElem_cons_succ, List.setIfInBounds_toArray, List.set_cons_zero, List.set_cons_succ]
      refine anyT_takeT (i := 4) (v := .agg (uV L 4).toArray) rfl (by kernel_rfl) (by kernel_rfl) (by kernel_rfl) (by kernel_rfl) (fun _ _ _ h => h) (Or.inl ⟨by rfl, fun X hSw => by ((try dsimp only at hSw); go_simp)⟩) (hm.below kY5).range (fun _ => trivial) ?_
      simp only [Act.put, List.getElem_toArray, List.getElem_cons_zero, List.getElem_cons_succ, List.setIfInBounds_toArray, List.set_cons_zero, List.set_cons_succ]
      refine anyT_takeT (i := 5) (v := .bool true) rfl (by kernel_rfl) (by kernel_rfl) (by kernel_rfl) (by kernel_rfl) (fun _ _ _ h => h) (Or.inl ⟨by rfl, fun X hSw => by ((try dsimp only at hSw); go_simp)⟩) (hm.below kY5).range (fun _ => trivial) ?_
      simp only [Act.put, List.getElem_toArray, List.getElem_cons_zero, List.getElem_cons_succ, List.setIfInBounds_toArray, List.set_cons_zero, List.set_cons_succ]
      have hp := RowU.put h3_5 (f' := L)
      have hth2 := RowU.there2 h3_5 (f' := L)
      have hlt3 := RowU.lt h3_5
      rw [hLO.out] at hlt3
      have hnw := hn.lt
      have hrw := hr.lt
      have hmw := hm.lt
      have hn2 := (hn.below kY5).kept hp.2 (by omega)
      have hr2 := (hr.below kY5).kept hp.2 (by omega)
      have hm2 := (hm.below kY5).kept hp.2 (by omega)
      have bel1 := below_on bel kY5
      have hsk := Below.size kY5
      have bel2 := bel1.grown hp.2 (by omega) (fun k hk => by cases hk; omega)
      have h32 := hp.1
      refine anyT_one (i := 7) (by kernel_rfl) rfl (fun K hK => ?_)
      refine wp_store_mid 112 _ _ rfl g3 0 (uV L 4).toArray rfl rfl hth2 sizeU2 (all_oneCell_toArray (uV_one L 4)) ?_
      refine hK.out _ _ hm2.range (fun _ => trivial) ?_
      clear hK K
      refine anyT_takeT (i := 8) (v := .bool true) rfl (by kernel_rfl) (by kernel_rfl) (by kernel_rfl) (by kernel_rfl) (fun _ _ _ h => h) (Or.inl ⟨by rfl, fun X hSw => by ((try dsimp only at hSw); go_simp)⟩) hm2.range (fun _ => trivial) ?_
      simp only [Act.put, List.getElem_toArray, List.getElem_cons_zero, List.getElem_cons_succ, List.setIfInBounds_toArray, List.set_cons_zero, List.set_cons_succ]
      refine anyT_done (by kernel_rfl) ?_ _
      refine NoPanic.normal ?_
      generalize World.setCells wY5 g3 0 _ = w5 at hp hn2 hr2 hm2 bel2 h32 ⊢
      have hrn := hn2.range
      have hr3 := h32.range
      have hws := hn2.lt
      clear hp hth2 h3_5 hlt3 hnw hrw hmw bel1 CP CL hn2 hm2 h32 hsk
      go_wp2_with (first | (refine wpList_load_mid rfl 112 _ rfl w.heap.size 0 rfl (uV (numU x) 4) _ hrn Tryz.underlying112 rfl sizeU ?_) | (refine wpList_load_mid rfl 112 _ rfl g3 0 rfl (uV L 4) _ hr3 Tryz.underlying112 rfl sizeU ?_))
      refine (CS _).mono ?_
      rintro e w6 ⟨rfl, b6⟩
      have hr6 := hr2.below b6
      have bel6 := below_on bel2 b6
      have hsz6 := b6.size
      clear hr2 bel2 b6 CS hrn hr3
      have hp := RowU.put hr6 (f' := V)
      have hth := RowU.there2 hr6 (f' := V)
      have hbel := Below.grown bel6 hp.2 (by omega) (fun k hk => by cases hk; exact hlo2)
      have hld := run_loadVar_mid (P := Tryz.prog) _ G2 0 112 _ _ hp.1.range Tryz.underlying112 rfl sizeU
      clear hp
      go_wp2_with (refine wpList_store_mid rfl 112 _ _ rfl G2 0 (uV V 4).toArray rfl rfl hth sizeU2 (all_oneCell_toArray (uV_one V 4)) ?_)
      (try simp only [Exit.inBlock, Exit.then])
      refine bodyPost_ret (v := .agg (uV V 4).toArray) ?_ rfl ⟨rfl, hbel⟩
      simp [results, asAddr, Act.put, hld]
  · go_simp
    have h3_6 := RowU.made W 112 4 LO (fun _ => 0) (by decide) (by rw [hLO.out]; exact Below.size kX)
    rw [← hZ.out] at h3_6
    have bY6 : Below W.heap.size W (W.alloc (.cells Z 112)) := (Below.refl _ _).alloc (Nat.le_refl _) _
    have kY6 := below_on kX bY6
    refine hK.out _ _ (hm.below kY6).range (fun _ => trivial) ?_
    clear hK K
    generalize W.alloc (.cells Z 112) = wY6 at h3_6 bY6 kY6 ⊢
    obtain ⟨g3, hg3⟩ : ∃ g3, g3 = W.heap.size := ⟨_, rfl⟩
    rw [← hg3] at h3_6 ⊢
    clear hg3
    refine anyT_one (i := 0) (by kernel_rfl) rfl (fun K hK => ?_)
    go_simp
    refine (CP _).mono ?_
    rintro e wY7 ⟨rfl, bY7⟩
    have kY7 := below_on kY6 bY7
    have h3_7 := RowU.below h3_6 bY7
    go_wp2_with (fail)
    refine hK.out _ _ (hm.below kY7).range (fun _ => trivial) ?_
    clear hK K
    refine anyT_one (i := 2) (by kernel_rfl) rfl (fun K hK => ?_)
    go_simp
    refine (CL _).mono ?_
    rintro e wY8 ⟨rfl, bY8⟩
    have kY8 := below_on kY7 bY8
    have h3_8 := RowU.below h3_7 bY8
    go_wp2_with (fail)
    refine hK.out _ _ (hm.below kY8).range (fun _ => trivial) ?_
    clear hK K
    refine anyT_takeT (i := 3) (v := .tuple #[.agg (uV L 4).toArray, .bool true]) rfl (by kernel_rfl) (by kernel_rfl) (by kernel_rfl) (by kernel_rfl) (fun _ _ _ h => h) (Or.inl ⟨by rfl, fun X hSw => by ((try dsimp only at hSw); go_simp)⟩) (hm.below kY8).range (fun _ => trivial) ?_
    simp only [Act.put, List.getElem_toArray, List.getElem_cons_zero, List.getElem_cons_succ, List.setIfInBounds_toArray, List.set_cons_zero, List.set_cons_succ]
    refine anyT_takeT (i := 4) (v := .agg (uV L 4).toArray) rfl (by kernel_rfl) (by kernel_rfl) (by kernel_rfl) (by kernel_rfl) (fun _ _ _ h => h) (Or.inl ⟨by rfl, fun X hSw => by ((try dsimp only at hSw); go_simp)⟩) (hm.below kY8).range (fun _ => trivial) ?_
    simp only [Act.put, List.getElem_toArray, List.getElem_cons_zero, List.getElem_cons_succ, List.setIfInBounds_toArray, List.set_cons_zero, List.set_cons_succ]
    refine anyT_takeT (i := 5) (v := .bool true) rfl (by kernel_rfl) (by kernel_rfl) (by kernel_rfl) (by kernel_rfl) (fun _ _ _ h => h) (Or.inl ⟨by rfl, fun X hSw => by ((try dsimp only at hSw); go_simp)⟩) (hm.below kY8).range (fun _ => trivial) ?_
    simp only [Act.put, List.getElem_toArray, List.getElem_cons_zero, List.getElem_cons_succ, List.setIfInBounds_toArray, List.set_cons_zero, List.set_cons_succ]
    have hp := RowU.put h3_8 (f' := L)
    have hth2 := RowU.there2 h3_8 (f' := L)
    have hlt3 := RowU.lt h3_8
    rw [hLO.out] at hlt3
    have hnw := hn.lt
    have hrw := hr.lt
    have hmw := hm.lt
    have hn2 := (hn.below kY8).kept hp.2 (by omega)
    have hr2 := (hr.below kY8).kept hp.2 (by omega)
    have hm2 := (hm.below kY8).kept hp.2 (by omega)
    have bel1 := below_on bel kY8
    have hsk := Below.size kY8
    have bel2 := bel1.grown hp.2 (by omega) (fun k hk => by cases hk; omega)
    have h32 := hp.1
    refine anyT_one (i := 7) (by kernel_rfl) rfl (fun K hK => ?_)
    refine wp_store_mid 112 _ _ rfl g3 0 (uV L 4).toArray rfl rfl hth2 sizeU2 (all_oneCell_toArray (uV_one L 4)) ?_
    refine hK.out _ _ hm2.range (fun _ => trivial) ?_
    clear hK K
    refine anyT_takeT (i := 8) (v := .bool true) rfl (by kernel_rfl) (by kernel_rfl) (by kernel_rfl) (by kernel_rfl) (fun _ _ _ h => h) (Or.inl ⟨by rfl, fun X hSw => by ((try dsimp only at hSw); go_simp)⟩) hm2.range (fun _ => trivial) ?_
    simp only [Act.put, List.getElem_toArray, List.getElem_cons_zero, List.getElem_cons_succ, List.setIfInBounds_toArray, List.set_cons_zero, List.set_cons_succ]
    refine anyT_done (by kernel_rfl) ?_ _
    refine NoPanic.normal ?_
    generalize World.setCells wY8 g3 0 _ = w5 at hp hn2 hr2 hm2 bel2 h32 ⊢
    have hrn := hn2.range
    have hr3 := h32.range
    have hws := hn2.lt
    clear hp hth2 h3_8 hlt3 hnw hrw hmw bel1 CP CL hn2 hm2 h32 hsk
    go_wp2_with (first | (refine wpList_load_mid rfl 112 _ rfl w.heap.size 0 rfl (uV (numU x) 4) _ hrn Tryz.underlying112 rfl sizeU ?_) | (refine wpList_load_mid rfl 112 _ rfl g3 0 rfl (uV L 4) _ hr3 Tryz.underlying112 rfl sizeU ?_))
    refine (CS _).mono ?_
    rintro e w6 ⟨rfl, b6⟩
    have hr6 := hr2.below b6
    have bel6 := below_on bel2 b6
    have hsz6 := b6.size
    clear hr2 bel2 b6 CS hrn hr3
    have hp := RowU.put hr6 (f' := V)
    have hth := RowU.there2 hr6 (f' := V)
    have hbel := Below.grown bel6 hp.2 (by omega) (fun k hk => by cases hk; exact hlo2)
    have hld := run_loadVar_mid (P := Tryz.prog) _ G2 0 112 _ _ hp.1.range Tryz.underlying112 rfl sizeU
    clear hp
    go_wp2_with (refine wpList_store_mid rfl 112 _ _ rfl G2 0 (uV V 4).toArray rfl rfl hth sizeU2 (all_oneCell_toArray (uV_one V 4)) ?_)
    (try simp only [Exit.inBlock, Exit.then])
    refine bodyPost_ret (v := .agg (uV V 4).toArray) ?_ rfl ⟨rfl, hbel⟩
    simp [results, asAddr, Act.put, hld]
def numV (z : Int) : List Value := uV (numU z) 4
theorem numV_q4 (z : Int) : Q4 (numV z) := q4 z
def ladC (x : Int) (s : Lad) : List Value := LadV (numV x) (numV s.a) (numV s.c) (numV s.b) (numV s.d)
theorem ladC_length (x : Int) (s : Lad) : (ladC x s).length = 20 := LadV_length (q4 _) (q4 _) (q4 _) (q4 _) (q4 _)
theorem ladC_one (x : Int) (s : Lad) : ∀ v ∈ ladC x s, v.oneCell' = true := LadV_one (q4 _) (q4 _) (q4 _) (q4 _) (q4 _)
def modL (s : Lad) : Lad := ⟨s.a % fldP, s.b % fldP, s.c % fldP, s.d % fldP⟩
def inP (x : Int) : Prop := 0 ≤ x ∧ x < fldP
theorem inP_mod (x : Int) : inP (x % fldP) := modP_range x
theorem inP.b4 {x : Int} (h : inP x) : 0 ≤ x ∧ x < bU ^ 4 := by have := b4U; have := h.1; have := h.2; have := fldP_pos; omega
def inL (s : Lad) : Prop := inP s.a ∧ inP s.b ∧ inP s.c ∧ inP s.d
theorem inL_mod (s : Lad) : inL (modL s) := ⟨inP_mod _, inP_mod _, inP_mod _, inP_mod _⟩
theorem inL.ladIf {s : Lad} (h : inL s) (t : Bool) : inL (ladIf t s) := by
  cases t
  · exact h
  · exact ⟨h.2.1, h.1, h.2.2.2, h.2.2.1⟩
theorem modL_like (s : Lad) : likeL (modL s) s := ⟨likeP_mod _, likeP_mod _, likeP_mod _, likeP_mod _⟩
theorem likeL.modL {s t : Lad} (h : likeL s t) : modL s = modL t := by
  unfold Go.Proofs.YtnpffnhiefgglaaGreatDoor.modL
  rw [h.1.mod, h.2.1.mod, h.2.2.1.mod, h.2.2.2.mod]
theorem ladderAt_any (x : Int) (w : World) : Calls Tryz.prog 94 #[.agg (numV x).toArray] w fun e w' => e = .returned (.agg (ladC x ⟨1, x, 0, 1⟩).toArray) ∧ Below w.heap.size w w' :=
  ladderAt_sym (numV x) (numV 1) (numV 0) w (q4 _) rfl rfl
theorem changed_any (x : Int) (s : Lad) (t : Bool) (w : World) : Calls Tryz.prog 128 #[.agg (ladC x s).toArray, .bool t] w fun e w' => e = .returned (.agg (ladC x (ladIf t s)).toArray) ∧ Below w.heap.size w w' := by
  cases t
  · exact changed_false _ _ _ _ _ w (q4 _) (q4 _) (q4 _) (q4 _) (q4 _)
  · exact changed_true _ _ _ _ _ w (q4 _) (q4 _) (q4 _) (q4 _) (q4 _)
theorem cplus {x y : Int} (hx : inP x) (hy : inP y) (X : World) : Calls Tryz.prog 177 #[.agg (numV x).toArray, .agg (numV y).toArray] X fun e w' => e = .returned (.agg (numV ((x + y) % fldP)).toArray) ∧ Below X.heap.size X w' :=
  plus_any x y X hx.1 hy.1 (by have := b4U; have := hx.2; have := hy.2; omega)
theorem cminus {x y : Int} (hx : inP x) (hy : inP y) (X : World) : Calls Tryz.prog 178 #[.agg (numV x).toArray, .agg (numV y).toArray] X fun e w' => e = .returned (.agg (numV ((x - y) % fldP)).toArray) ∧ Below X.heap.size X w' :=
  minus_any x y X hx.1 hx.2 hy.1 hy.2
theorem ctimes {x y : Int} (hx : inP x) (hy : inP y) (X : World) : Calls Tryz.prog 96 #[.agg (numV x).toArray, .agg (numV y).toArray] X fun e w' => e = .returned (.agg (numV (x * y % fldP)).toArray) ∧ Below X.heap.size X w' :=
  fieldTimes_any x y X hx.b4.1 hx.b4.2 hy.b4.1 hy.b4.2
theorem step_any (x : Int) (s : Lad) (w : World) (hx : inP x) (hs : inL s) : Calls Tryz.prog 129 #[.agg (ladC x s).toArray] w fun e w' => e = .returned (.agg (ladC x (modL (ladStep x s))).toArray) ∧ Below w.heap.size w w' := by
  obtain ⟨a, ha⟩ : ∃ a, a = (s.a + s.c) % fldP := ⟨_, rfl⟩
  obtain ⟨b, hb⟩ : ∃ a, a = (s.a - s.c) % fldP := ⟨_, rfl⟩
  obtain ⟨c, hc⟩ : ∃ a, a = (s.b + s.d) % fldP := ⟨_, rfl⟩
  obtain ⟨d, hd⟩ : ∃ a, a = (s.b - s.d) % fldP := ⟨_, rfl⟩
  have la : likeP a (s.a + s.c) := by rw [ha]; exact likeP_mod _
  have lb : likeP b (s.a - s.c) := by rw [hb]; exact likeP_mod _
  have lc : likeP c (s.b + s.d) := by rw [hc]; exact likeP_mod _
  have ld : likeP d (s.b - s.d) := by rw [hd]; exact likeP_mod _
  have ia : inP a := by rw [ha]; exact inP_mod _
  have ib : inP b := by rw [hb]; exact inP_mod _
  have ic : inP c := by rw [hc]; exact inP_mod _
  have id' : inP d := by rw [hd]; exact inP_mod _
  have laa : likeP (a * a % fldP) (ladEE s) := (likeP_mod _).trans (la.mul la)
  have lbb : likeP (b * b % fldP) (ladFF s) := (likeP_mod _).trans (lb.mul lb)
  have lda : likeP (d * a % fldP) (ladHE s) := (likeP_mod _).trans (ld.mul la)
  have lcb : likeP (c * b % fldP) (ladGF s) := (likeP_mod _).trans (lc.mul lb)
  have le : likeP ((a * a % fldP - b * b % fldP) % fldP) (ladEE s - ladFF s) := (likeP_mod _).trans (laa.sub lbb)
  have lbo : likeP ((d * a % fldP + c * b % fldP) % fldP) (ladHE s + ladGF s) := (likeP_mod _).trans (lda.add lcb)
  have lbe : likeP ((d * a % fldP - c * b % fldP) % fldP) (ladHE s - ladGF s) := (likeP_mod _).trans (lda.sub lcb)
  have h := step_sym (numV x) (numV s.a) (numV s.c) (numV s.b) (numV s.d) (numV 121665) (numV a) (numV b) (numV (a * a % fldP)) (numV (b * b % fldP)) (numV ((a * a % fldP - b * b % fldP) % fldP)) (numV c) (numV d) (numV (d * a % fldP)) (numV (c * b % fldP))
    (numV ((d * a % fldP + c * b % fldP) % fldP)) (numV ((d * a % fldP - c * b % fldP) % fldP))
    (numV ((d * a % fldP + c * b % fldP) % fldP * ((d * a % fldP + c * b % fldP) % fldP) % fldP)) (numV ((d * a % fldP - c * b % fldP) % fldP * ((d * a % fldP - c * b % fldP) % fldP) % fldP))
    (numV (x * ((d * a % fldP - c * b % fldP) % fldP * ((d * a % fldP - c * b % fldP) % fldP) % fldP) % fldP))
    (numV (a * a % fldP * (b * b % fldP) % fldP)) (numV ((a * a % fldP - b * b % fldP) % fldP * 121665 % fldP)) (numV ((a * a % fldP + (a * a % fldP - b * b % fldP) % fldP * 121665 % fldP) % fldP))
    (numV ((a * a % fldP - b * b % fldP) % fldP * ((a * a % fldP + (a * a % fldP - b * b % fldP) % fldP * 121665 % fldP) % fldP) % fldP))
    w rfl (q4 _) (q4 _) (q4 _) (q4 _) (q4 _) (q4 _) (q4 _) (q4 _) (q4 _) (q4 _) (q4 _) (q4 _) (q4 _) (q4 _) (q4 _) (q4 _) (q4 _) (q4 _) (q4 _) (q4 _)
    (by have h := cplus hs.1 hs.2.2.1; rw [← ha] at h; exact h) (by have h := cminus hs.1 hs.2.2.1; rw [← hb] at h; exact h) (ctimes ia ia) (ctimes ib ib) (cminus (inP_mod _) (inP_mod _))
    (by have h := cplus hs.2.1 hs.2.2.2; rw [← hc] at h; exact h) (by have h := cminus hs.2.1 hs.2.2.2; rw [← hd] at h; exact h) (ctimes id' ia) (ctimes ic ib) (cplus (inP_mod _) (inP_mod _)) (cminus (inP_mod _) (inP_mod _))
    (ctimes (inP_mod _) (inP_mod _)) (ctimes (inP_mod _) (inP_mod _)) (ctimes hx (inP_mod _))
    (ctimes (inP_mod _) (inP_mod _)) (ctimes (inP_mod _) ⟨by decide, by decide⟩) (cplus (inP_mod _) (inP_mod _)) (ctimes (inP_mod _) (inP_mod _))
  have eA : a * a % fldP * (b * b % fldP) % fldP = (ladStep x s).a % fldP := (laa.mul lbb).mod
  have eB : (d * a % fldP + c * b % fldP) % fldP * ((d * a % fldP + c * b % fldP) % fldP) % fldP = (ladStep x s).b % fldP := (lbo.mul lbo).mod
  have eD : x * ((d * a % fldP - c * b % fldP) % fldP * ((d * a % fldP - c * b % fldP) % fldP) % fldP) % fldP = (ladStep x s).d % fldP := (((likeP_mod _).trans (lbe.mul lbe)).mulL x).mod
  have eC : (a * a % fldP - b * b % fldP) % fldP * ((a * a % fldP + (a * a % fldP - b * b % fldP) % fldP * 121665 % fldP) % fldP) % fldP = (ladStep x s).c % fldP :=
    (le.mul ((likeP_mod _).trans (laa.add ((likeP_mod _).trans (le.mulR _))))).mod
  rw [eA, eB, eC, eD] at h
  exact h
theorem wp_scope_from {P : Program} {c1 rest : Code} {Q : Exit → Act → World → Prop} {a : Act} {w : World} (l : Nat) (J : Act → World → Prop) (μ : Act → World → Nat) (hf : findLabel (c1.seq ((Code.label l).seq rest)) l = some (Code.skip.seq rest))
    (first : c1.wp P (fun e a' w' => e = .normal ∧ J a' w') a w)
    (pass : ∀ a w, J a w → rest.wp P (Exit.jump l (fun a' w' => J a' w' ∧ μ a' w' < μ a w) Q) a w) : (Code.scope (c1.seq ((Code.label l).seq rest))).wp P Q a w := by
  refine wp_scope_jumps l J μ hf (wp_seq (wp_mono first ?_)) (fun a w hJ => wp_seq (wp_skip (pass a w hJ)))
  rintro e a' w' ⟨rfl, hJ⟩
  refine wp_seq (wp_label ?_)
  refine wp_mono (pass a' w' hJ) fun e a w h => ?_
  cases e with
  | goto l' => exact ⟨h.1, h.2.1⟩
  | _ => exact h
theorem and1b (v : Nat) (h : v < 256) : bits .and .u8 (v : Int) 1 = bitI (decide (v % 2 = 1)) := by
  have e : bits .and .u8 (v : Int) 1 = IntKind.u8.wrap ((BitVec.ofInt 8 (v : Int) &&& BitVec.ofInt 8 1).toNat : Int) := rfl
  have e1 : (BitVec.ofInt 8 (v : Int)).toNat = v := by rw [BitVec.toNat_ofInt]; omega
  have e2 : (BitVec.ofInt 8 1).toNat = 2 ^ 1 - 1 := rfl
  have e3 : ∀ x : Int, IntKind.u8.wrap x = x % 256 := fun x => rfl
  rw [e, BitVec.toNat_and, e1, e2, Nat.and_two_pow_sub_one_eq_mod, e3]
  unfold bitI
  by_cases h2 : v % 2 = 1
  · simp [h2]
  · have : v % 2 = 0 := by omega
    simp [this]
theorem bitI_ne (a b : Bool) : (bitI a != bitI b) = (a != b) := by cases a <;> cases b <;> rfl
theorem bitI_one (a : Bool) : (bitI a == 1) = a := by cases a <;> rfl
theorem lad_two {X A C B D : List Value} (hX : Q4 X) (hA : Q4 A) (hC : Q4 C) : (LadV X A C B D).toArray.extract 4 12 = (A ++ C).toArray := by
  obtain ⟨a, b, c, d, rfl⟩ := four_of hX
  obtain ⟨a1, b1, c1, d1, rfl⟩ := four_of hA
  obtain ⟨a2, b2, c2, d2, rfl⟩ := four_of hC
  simp [LadV]
theorem field_two (A : Array Value) (X : World) : (Instr.field 118 (.agg A) 1).run Tryz.prog X = .ok (.agg (A.extract 4 12)) X := by kernel_rfl
def ratC (s : Lad) : List Value := numV s.a ++ numV s.c
theorem ladC_two (x : Int) (s : Lad) : (ladC x s).toArray.extract 4 12 = (ratC s).toArray := lad_two (q4 _) (q4 _) (q4 _)
theorem ratC_length (s : Lad) : (ratC s).length = 8 := rat_length (q4 _) (q4 _)
theorem ratC_one (s : Lad) : ∀ v ∈ ratC s, v.oneCell' = true := rat_one (q4 _) (q4 _)
set_option maxHeartbeats 8000000 in
theorem down_any (bk ok ck : Nat) (ks : List Int) (x : Int) (w : World) (hb : ∀ x ∈ ks, 0 ≤ x ∧ x < 256) (hk : ∀ i, i < 32 → w.cell? ⟨bk, ok + i, none⟩ = some (.int .u8 (ks.getD i 0))) (hx : inP x) :
    Calls Tryz.prog 95 #[.agg (ladC x ⟨1, x, 0, 1⟩).toArray, .slice (some ⟨bk, ok, none⟩) 32 ck] w fun e w' => e = .returned (.agg (ratC (modL (ladE (bitB ks) x))).toArray) ∧ Below w.heap.size w w' := by
  have hblt : bk < w.heap.size := World.block_lt_of_cell? w ⟨bk, ok + 0, none⟩ (hk 0 (by decide))
  have HK : Hid (∀ X, Below w.heap.size w X → ∀ i, i < 32 → X.cell? ⟨bk, ok + i, none⟩ = some (.int .u8 (ks.getD i 0))) := fun X hX i hi => (hX.cell (p := ⟨bk, ok + i, none⟩) hblt).trans (hk i hi)
  have HB : Hid (∀ i, 0 ≤ ks.getD i 0 ∧ ks.getD i 0 < 256) := fun i => byteZ hb i
  obtain ⟨bit, hbit⟩ : ∃ bit, bit = bitB ks := ⟨_, rfl⟩
  rw [← hbit]
  replace hbit : Hid (bit = bitB ks) := hbit
  have hz := (zero_of_info infoRat).1
  obtain ⟨Z, hZ⟩ : ∃ Z, Z = (uV (fun _ => 0) 8).toArray := ⟨_, rfl⟩
  rw [← hZ] at hz
  have e0 : modL (ladN bit x 0) = ⟨1, x, 0, 1⟩ := by
    have h1 : x % fldP = x := Int.emod_eq_of_lt hx.1 hx.2
    show modL ⟨1, x, 0, 1⟩ = _
    unfold modL
    simp only [h1]
    rfl
  rw [← e0]
  clear e0 hblt hk hb
  obtain ⟨AL, hAL⟩ : ∃ A, A = (ladC x (modL (ladN bit x 0))).toArray := ⟨_, rfl⟩
  obtain ⟨rl, rr, bel, sz⟩ := ladRows w (ladC_length x _) (ty := 116) (n := 8) (by decide) hAL hZ
  rw [← hAL]
  obtain ⟨LR, hR⟩ : ∃ L, L = ratC (modL (ladE bit x)) := ⟨_, rfl⟩
  rw [← hR]
  replace hR : Hid (LR = ratC (modL (ladE bit x))) := hR
  clear hAL hZ
  go_enter Tryz.func95, Tryz.ntmps95
  go_wp2_with (fail)
  obtain ⟨Gr, hGr⟩ : ∃ G, G = w.heap.size + 1 := ⟨_, rfl⟩
  rw [← hGr] at rr sz ⊢
  generalize (w.alloc (.cells AL 118)).alloc (.cells Z 116) = wb at rl rr bel sz ⊢
  have oGr : w.heap.size < Gr := by omega
  clear hGr sz hz
  refine wp_scope_from 0 (fun a' w' => ∃ n : Nat, n ≤ 255 ∧ RowL 118 20 w' w.heap.size w.heap.size (ladC x (modL (ladN bit x n))) ∧ RowL 116 8 w' w.heap.size Gr (uV (fun _ => 0) 8) ∧ Below w.heap.size w w' ∧
    ∃ (v5 v6 u7 u8 u9 u10 u11 u12 u13 u14 u15 u16 u17 u18 u19 u20 u21 u22 u23 u24 u25 u26 u27 : Value), a' = { tmps := #[.agg AL, .slice (some ⟨bk, ok, none⟩) 32 ck, .pointer (some ⟨w.heap.size, 0, none⟩), undef, .pointer (some ⟨Gr, 0, none⟩), v5, v6, u7, u8, u9, u10, u11, u12, u13, u14, u15, u16, u17, u18, u19, u20, u21, u22, u23, u24, u25, u26, u27, undef, undef, undef, undef, undef], defers := [] } ∧ v5 = .int .i64 ((255 - n : Nat) : Int) ∧ v6 = .int .u8 (bitI (lastB bit n))) (fun a' _ => (intOf (a'.tmps.getD 5 undef)).toNat) rfl ?_ ?_
  · go_wp2_with (fail)
    exact ⟨0, by omega, rl, rfl, rfl⟩
  · clear rl rr bel
    clear wb
    rintro a' wr ⟨n, hn, rl, rr, bel, v5, v6, u7, u8, u9, u10, u11, u12, u13, u14, u15, u16, u17, u18, u19, u20, u21, u22, u23, u24, u25, u26, u27, rfl, rfl, rfl⟩
    by_cases hlt : n < 255
    · obtain ⟨m, hm⟩ : ∃ m : Nat, m = 255 - n := ⟨_, rfl⟩
      obtain ⟨j, hj⟩ : ∃ j : Nat, j = 254 - n := ⟨_, rfl⟩
      have hmm : Hid (m = 255 - n) := hm
      rw [← hm]
      have hgt : (m : Int) > 0 := by omega
      have hm1 : (m : Int) - 1 = (j : Int) := by omega
      have lj : (j : Int) < 256 := by omega
      have cv := HK.out _ bel (j / 8) (by omega)
      have hvb := HB.out (j / 8)
      obtain ⟨v, hv⟩ : ∃ v : Nat, (v : Int) = ks.getD (j / 8) 0 := ⟨(ks.getD (j / 8) 0).toNat, by omega⟩
      rw [← hv] at cv
      obtain ⟨q, hq⟩ : ∃ q : Nat, q = j / 8 := ⟨_, rfl⟩
      rw [← hq] at cv
      have eq : Int.tdiv (j : Int) 8 = (q : Int) := by rw [hq]; exact (Int.ofNat_tdiv j 8).symm
      have lq : (q : Int) < 32 := by omega
      obtain ⟨r, hr⟩ : ∃ r : Nat, r = j % 8 := ⟨_, rfl⟩
      have er : Int.tmod (j : Int) 8 = (r : Int) := by rw [hr]; exact (Int.ofNat_tmod j 8).symm
      have lr : r < 8 := by omega
      have lr' : (r : Int) < 64 := by omega
      have hvl : v < 256 := by omega
      obtain ⟨u, hu⟩ : ∃ u : Nat, u = v / 2 ^ r := ⟨_, rfl⟩
      have eu : (v : Int) / 2 ^ r = (u : Int) := by rw [hu, Int.natCast_ediv, Int.natCast_pow]; rfl
      have lu : u < 256 := by rw [hu]; exact Nat.lt_of_le_of_lt (Nat.div_le_self _ _) hvl
      have a1 := and1b u lu
      have hv2 : (ks.getD q 0).toNat = v := by rw [hq]; omega
      have ebt : decide (u % 2 = 1) = bit j := by rw [hbit.out]; unfold bitB; rw [← hq, ← hr, hv2, hu]
      rw [ebt] at a1
      obtain ⟨lb, hlb⟩ : ∃ lb, lb = lastB bit n := ⟨_, rfl⟩
      rw [← hlb]
      obtain ⟨bj, hbj⟩ : ∃ bj, bj = bit j := ⟨_, rfl⟩
      rw [← hbj] at a1
      have lvv : (v : Int) < 256 := by omega
      have luu : (u : Int) < 256 := by omega
      have hne := bitI_ne bj lb
      have hS := inL_mod (ladN bit x n)
      have CC : ∀ X, Calls Tryz.prog 128 #[.agg (ladC x (modL (ladN bit x n))).toArray, .bool (bj != lb)] X fun e w' => e = .returned (.agg (ladC x (ladIf (bj != lb) (modL (ladN bit x n)))).toArray) ∧ Below X.heap.size X w' := fun X => changed_any x _ _ X
      have CS := fun X => step_any x (ladIf (bj != lb) (modL (ladN bit x n))) X hx (hS.ladIf _)
      have hnx : modL (ladStep x (ladIf (bj != lb) (modL (ladN bit x n)))) = modL (ladN bit x (n + 1)) := by
        have h1 : ladN bit x (n + 1) = ladStep x (ladIf (bj != lb) (ladN bit x n)) := by
          rw [hbj, hlb, hj]
          rfl
        rw [h1]
        exact (like_step (likeP.refl x) ((modL_like _).ladIf _)).modL
      rw [hnx] at CS
      have hlen := ladC_length x (modL (ladN bit x (n + 1)))
      have hone := ladC_one x (modL (ladN bit x (n + 1)))
      have szn := szLad (ladC_length x (modL (ladN bit x n)))
      have sz1 := szLad2 hlen
      have q0 := rl.all
      obtain ⟨t, ht⟩ : ∃ t, t = (bj != lb) := ⟨_, rfl⟩
      rw [← ht] at hne CC CS
      clear hS hnx ht hlb
      generalize ladC x (ladIf t (modL (ladN bit x n))) = Lm at CC CS
      have hln := ladC_length x (modL (ladN bit x n))
      generalize ladC x (modL (ladN bit x n)) = Ln at rl CC szn q0 hln
      obtain ⟨Lp, hLp⟩ : ∃ L, L = ladC x (modL (ladN bit x (n + 1))) := ⟨_, rfl⟩
      rw [← hLp] at CS hlen hone sz1
      replace hLp : Hid (Lp = ladC x (modL (ladN bit x (n + 1)))) := hLp
      replace hj : Hid (j = 254 - n) := hj
      replace hbj : Hid (bj = bit j) := hbj
      replace hln : Hid (Ln.length = 20) := hln
      replace hlen : Hid (Lp.length = 20) := hlen
      clear hq hr hu ebt hvb hv hv2 hm hbit HB hR
      go_wp2_with (with_reducible refine wpList_load_mid rfl 118 _ rfl w.heap.size 0 rfl Ln _ q0 Tryz.underlying118 rfl szn ?_)
      refine (CC _).mono ?_
      rintro e w1 ⟨rfl, b1⟩
      go_wp2_with (fail)
      refine (CS _).mono ?_
      rintro e w2 ⟨rfl, b2⟩
      replace rl := (rl.below b1).below b2
      replace rr := (rr.below b1).below b2
      replace bel := below_on (below_on bel b1) b2
      have th := rl.there (o := 0) (m := Lp.toArray.size) (by simp [hlen.out])
      have pp := rl.putAll (B := Lp) (by rw [hlen.out, hln.out])
      replace rr := rr.kept pp.2 (by omega)
      replace bel := bel.grown pp.2 bel.size (fun k hk => by cases hk; exact Nat.le_refl _)
      have rl2 := pp.1
      clear rl pp b1 b2 CC CS q0 cv a1 hne
      go_wp2_with (with_reducible refine wpList_store_mid rfl 118 _ _ rfl w.heap.size 0 Lp.toArray rfl rfl th sz1 (all_oneCell_toArray hone) ?_; (try dsimp only))
      go_step3
      have e5 : 255 - (n + 1) = j := by have := hj.out; omega
      have e6 : lastB bit (n + 1) = bj := by rw [hbj.out, hj.out]; unfold lastB; rw [if_neg (by omega), show 255 - (n + 1) = 254 - n by omega]
      refine ⟨rfl, ⟨n + 1, by omega, by rw [← hLp.out]; exact rl2, rr, bel, _, _, _, _, _, _, _, _, _, _, _, _, _, _, _, _, _, _, _, _, _, _, _, rfl, by rw [e5], by rw [e6]⟩, ?_⟩
      · have h1 := hj.out
        have h2 := hmm.out
        simp [intOf]
        omega
    · obtain rfl : n = 255 := by omega
      have e5 : ((255 - 255 : Nat) : Int) = 0 := rfl
      have e6 : lastB bit 255 = bit 0 := rfl
      rw [e5, e6]
      obtain ⟨b0, hb0⟩ : ∃ b0, b0 = bit 0 := ⟨_, rfl⟩
      rw [← hb0]
      have h1 := bitI_one b0
      have CC : ∀ X, Calls Tryz.prog 128 #[.agg (ladC x (modL (ladN bit x 255))).toArray, .bool b0] X fun e w' => e = .returned (.agg (ladC x (ladIf b0 (modL (ladN bit x 255)))).toArray) ∧ Below X.heap.size X w' := fun X => changed_any x _ _ X
      have hex := ladC_two x (ladIf b0 (modL (ladN bit x 255)))
      have hsw : ladIf b0 (modL (ladN bit x 255)) = modL (ladE bit x) := by
        rw [hb0]
        unfold ladE
        cases bit 0 <;> rfl
      rw [hsw] at hex CC
      rw [← hR.out] at hex
      have q0 := rl.all
      have szn := szLad (ladC_length x (modL (ladN bit x 255)))
      have hlen : LR.length = 8 := by rw [hR.out]; exact ratC_length _
      have hone : ∀ v ∈ LR, v.oneCell' = true := by rw [hR.out]; exact ratC_one _
      have sz1 := szRat2 hlen
      have szr := szRat hlen
      obtain ⟨AM, hAM⟩ : ∃ A, A = (ladC x (modL (ladE bit x))).toArray := ⟨_, rfl⟩
      rw [← hAM] at hex CC
      have hfl : ∀ X, (Instr.field 118 (.agg AM) 1).run Tryz.prog X = .ok (.agg LR.toArray) X := fun X => by rw [field_two, hex]
      clear hex
      clear hAM hsw hb0 e5 e6 hlt hn HK HB hbit hx
      generalize ladC x (modL (ladN bit x 255)) = Ln at rl CC szn q0
      replace hlen : Hid (LR.length = 8) := hlen
      replace hR : Hid (LR = ratC (modL (ladE bit x))) := hR
      go_wp2_with (with_reducible refine wpList_load_mid rfl 118 _ rfl w.heap.size 0 rfl Ln _ q0 Tryz.underlying118 rfl szn ?_)
      refine (CC _).mono ?_
      rintro e w1 ⟨rfl, b1⟩
      replace rr := rr.below b1
      replace bel := below_on bel b1
      have th := rr.there (o := 0) (m := LR.toArray.size) (by simp [hlen.out])
      have pp := rr.putAll (B := LR) (by rw [hlen.out, uV_length])
      replace bel := bel.grown pp.2 bel.size (fun k hk => by cases hk; omega)
      have hld := run_loadVar_mid (P := Tryz.prog) _ _ 0 116 _ _ pp.1.all Tryz.underlying116 rfl szr
      clear rl rr pp b1 CC q0
      go_wp2_with (with_reducible refine wpList_store_mid rfl 116 _ _ rfl Gr 0 LR.toArray rfl rfl th sz1 (all_oneCell_toArray hone) ?_; (try dsimp only))
      (try simp only [Exit.jump])
      refine bodyPost_ret (v := .agg LR.toArray) ?_ rfl ⟨rfl, bel⟩
      simp [results, asAddr, hld]
set_option maxHeartbeats 8000000 in
theorem readField_yes (b o c : Nat) (xs : List Int) (w : World) (hc : 32 ≤ c) (hb : ∀ x ∈ xs, 0 ≤ x ∧ x < 256) (h : ∀ i, i < 32 → w.cell? ⟨b, o + i, none⟩ = some (.int .u8 (xs.getD i 0))) :
    Calls Tryz.prog 93 #[.slice (some ⟨b, o, none⟩) 32 c] w fun e w' => e = .returned (.tuple #[uP (numF xs % fldP), .bool true]) ∧ Below w.heap.size w w' := by
  have hz := (zero_of_info infoU4).1
  have hblt : b < w.heap.size := World.block_lt_of_cell? w ⟨b, o + 0, none⟩ (h 0 (by decide))
  have HX : Hid (∀ X, Below w.heap.size w X → ∀ i, i < 32 → X.cell? ⟨b, o + i, none⟩ = some (.int .u8 (xs.getD i 0))) := fun X hX i hi => (hX.cell (p := ⟨b, o + i, none⟩) hblt).trans (h i hi)
  have hval := val_rdU hb
  have hrng := valU_range (f := rdU xs) (n := 4) (fun i _ => rdU_range hb i)
  have HP : Hid (∀ i, i < 4 → rdU xs i = numU (numF xs) i) := fun i hi => by rw [← hval]; exact num_of_parts (fun i _ => rdU_range hb i) hi
  rw [hval] at hrng
  have CR := fun X => rest_any (numF xs) X hrng.1 hrng.2
  have CC : Hid (∀ (k : Nat), k < 4 → ∀ X, Calls Tryz.prog 126 #[.slice (some ⟨b, o, none⟩) 32 c, .int .i64 (k : Int)] X fun e w' => e = .returned (.slice (some ⟨b, o + 8 * k, none⟩) 8 8) ∧ w' = X) := fun k hk X => cutPart_any b o c k X hk hc
  have HO : Hid (∀ i p, p < 8 → bits .or .u64 (byF xs i p : Int) (((xs.getD (8 * i + p) 0).toNat * 2 ^ (8 * p) : Nat) : Int) = (byF xs i (p + 1) : Int)) := fun i p hp => or_step hb i p hp
  have HL : Hid (∀ i p, p ≤ 8 → byF xs i p < 18446744073709551616) := fun i p hp => Nat.lt_of_lt_of_le (byF_lt hb i p) (Nat.le_trans (Nat.pow_le_pow_right (by decide) (show 8 * p ≤ 64 by omega)) (by decide))
  have HY : Hid (∀ j, ((xs.getD j 0).toNat : Int) = xs.getD j 0 ∧ (xs.getD j 0).toNat < 256) := fun j => by
    have := byteZ hb j
    exact ⟨Int.toNat_of_nonneg this.1, by omega⟩
  unfold uP at CR ⊢
  obtain ⟨V, hV⟩ : ∃ V, V = numU (numF xs % fldP) := ⟨_, rfl⟩
  rw [← hV] at CR ⊢
  obtain ⟨U, hU⟩ : ∃ U, U = numU (numF xs) := ⟨_, rfl⟩
  rw [← hU] at CR HP
  obtain ⟨Z, hZ⟩ : ∃ Z, Z = (uV (fun _ => 0) 4).toArray := ⟨_, rfl⟩
  obtain ⟨m0, m1, bel0, sz⟩ := rows2 w (fun _ => 0) (fun _ => 0) hZ hZ
  rw [← hZ] at hz
  clear hZ hV hU hval hrng hb h hblt hc
  go_enter Tryz.func93, Tryz.ntmps93
  go_wp2_with (fail)
  obtain ⟨G1, hG1⟩ : ∃ G1, G1 = w.heap.size + 1 := ⟨_, rfl⟩
  rw [← hG1] at m1 sz ⊢
  generalize (w.alloc (.cells Z 112)).alloc (.cells Z 112) = wb at m0 m1 bel0 sz ⊢
  have hne : w.heap.size ≠ G1 := by omega
  have hloR : w.heap.size ≤ G1 := by omega
  clear hG1 sz hz
  replace m1 := m1.congr (f' := rdI xs 0 0) fun i _ => (rdI_zero xs i).symm
  go_loopw [12] (fun i wr => ∃ k : Nat, k ≤ 4 ∧ i = .int .i64 k ∧ RowU 112 4 wr w.heap.size G1 (rdI xs k 0) ∧ RowU 112 4 wr w.heap.size w.heap.size (fun _ => 0) ∧ Below w.heap.size w wr)
    (fun i _ => 4 - (intOf i).toNat)
  case atStart => exact ⟨0, by omega, rfl, m1, m0, bel0⟩
  case round =>
    clear m0 m1 bel0
    obtain ⟨k, hk, rfl, hn, hr, bel⟩ := hrel
    by_cases hlt : k < 4
    · have hlt' : (k : Int) < 4 := by omega
      have C := CC.out k hlt
      go_wp2_with (fail)
      refine (C _).mono ?_
      rintro e w1 ⟨rfl, rfl⟩
      clear C
      obtain ⟨ok, hok⟩ : ∃ ok, ok = o + 8 * k := ⟨_, rfl⟩
      rw [← hok]
      replace hok : Hid (ok = o + 8 * k) := hok
      go_wp2_with (fail)
      go_loopw [19] (fun i wx => ∃ p : Nat, p ≤ 8 ∧ i = .int .i64 p ∧ RowU 112 4 wx w.heap.size G1 (rdI xs k p) ∧ RowU 112 4 wx w.heap.size w.heap.size (fun _ => 0) ∧ Below w.heap.size w wx)
        (fun i _ => 8 - (intOf i).toNat)
      case atStart => exact ⟨0, by omega, rfl, hn, hr, bel⟩
      case round =>
        clear hn hr bel
        obtain ⟨p, hp, rfl, hn, hr, bel⟩ := hrel
        by_cases hlp : p < 8
        · have hlp' : (p : Int) < 8 := by omega
          have cx := HX.out _ bel (8 * k + p) (by omega)
          rw [← Nat.add_assoc, ← hok.out] at cx
          have cn := hn.cell k hlt
          rw [rdI_at] at cn
          have fn := hn.frozen k
          have hor := HO.out k p hlp
          have la := HL.out k p (by omega)
          have lu := HL.out k (p + 1) (by omega)
          have hy := HY.out (8 * k + p)
          have st := hn.set k (byF xs k (p + 1))
          have hn2 := st.1.congr fun i _ => rdI_step xs k p i
          have hr2 := hr.kept st.2 hne
          have bel2 := bel.grown st.2 (by have := hr.lt; omega) (fun k hk => by cases hk; exact hloR)
          have lb : (xs.getD (8 * k + p) 0).toNat * 2 ^ (8 * p) < 18446744073709551616 := Nat.lt_of_lt_of_le (Nat.mul_lt_mul_of_lt_of_le hy.2 (Nat.pow_le_pow_right (n := 2) (by decide) (show 8 * p ≤ 56 by omega)) (by decide)) (by decide)
          rw [← hy.1] at cx
          obtain ⟨q, hq⟩ : ∃ q, q = 8 * p := ⟨_, rfl⟩
          rw [← hq] at hor lb
          have eq8 : (8 : Int) * (p : Int) = (q : Int) := by omega
          have lq : q < 64 := by omega
          have lq' : (q : Int) < 64 := by omega
          have hx256 := hy.2
          generalize (xs.getD (8 * k + p) 0).toNat = x at cx hor lb hx256
          have eb : (x : Int) * 2 ^ q = ((x * 2 ^ q : Nat) : Int) := by simp
          generalize x * 2 ^ q = bb at hor lb eb
          generalize byF xs k (p + 1) = u at hor lu st hn2 hr2 bel2
          generalize byF xs k p = a at cn hor la
          have la' : (a : Int) < 18446744073709551616 := by omega
          have lu' : (u : Int) < 18446744073709551616 := by omega
          have lb' : (bb : Int) < 18446744073709551616 := by omega
          have lx' : (x : Int) < 256 := by omega
          have mb : (bb : Int) % 18446744073709551616 = (bb : Int) := by omega
          have mx : (x : Int) % 18446744073709551616 = (x : Int) := by omega
          clear st hn hr bel hy hq
          go_wp2_with (fail)
          go_region
          all_goals
            go_wp2
            go_roundw
            case rel => exact ⟨p + 1, by omega, by go_num, hn2.drew, hr2.drew, bel2.drew⟩
            case measure => simp [intOf]; omega
        · obtain rfl : p = 8 := by omega
          have hno : ¬ ((8 : Nat) : Int) < 8 := by omega
          replace hn := hn.congr (f' := rdI xs (k + 1) 0) fun i _ => rdI_next xs k i
          go_wp2_with (fail)
          go_roundw
          case rel => exact ⟨k + 1, by omega, by go_num, hn, hr, bel⟩
          case measure => simp [intOf]; omega
    · obtain rfl : k = 4 := by omega
      have hno : ¬ ((4 : Nat) : Int) < 4 := by omega
      have cn := hn.cell 3 (by decide)
      have e3 : rdI xs 4 0 3 = (byF xs 3 8 : Int) := by rw [rdI, if_pos (by decide)]
      rw [e3] at cn
      have fn := hn.frozen 3
      have l8 := HL.out 3 8 (by omega)
      have ht := top_off (byF xs 3 8) l8
      have st := hn.set 3 ((byF xs 3 8 % 9223372036854775808 : Nat) : Int)
      have hn2 := st.1.congr (f' := U) fun i hi => by rw [rdI_end xs hi, HP.out i hi]
      have hr2 := hr.kept st.2 hne
      have bel2 := bel.grown st.2 (by have := hr.lt; omega) (fun k hk => by cases hk; exact hloR)
      have lt2 : ((byF xs 3 8 % 9223372036854775808 : Nat) : Int) < 18446744073709551616 := by omega
      generalize ((byF xs 3 8 % 9223372036854775808 : Nat) : Int) = tt at ht st hn2 hr2 bel2 lt2
      generalize byF xs 3 8 = a at cn ht l8
      have l8' : (a : Int) < 18446744073709551616 := by omega
      have hra := hn2.range
      have hws := hr2.lt
      clear st hn hr bel HX HP CC HO HL HY e3 hn2
      go_wp2_with (refine wpList_load_mid rfl 112 _ rfl G1 0 rfl (uV U 4) _ hra Tryz.underlying112 rfl sizeU ?_)
      refine (CR _).mono ?_
      rintro e w2 ⟨rfl, b2⟩
      have hr3 := hr2.below b2
      have bel3 := below_on bel2 b2
      have hsz5 := b2.size
      clear hra hr2 bel2 b2 CR
      have hp := hr3.put (f' := V)
      have hth := hr3.there2 (f' := V)
      have hbel := bel3.grown hp.2 (by omega) (fun k hk => by cases hk; exact Nat.le_refl _)
      have hld := run_loadVar_mid (P := Tryz.prog) _ w.heap.size 0 112 _ _ hp.1.range Tryz.underlying112 rfl sizeU
      clear hp
      go_wp2_with (refine wpList_store_mid rfl 112 _ _ rfl w.heap.size 0 (uV V 4).toArray rfl rfl hth sizeU2 (all_oneCell_toArray (uV_one V 4)) ?_)
      (try simp only [Exit.inBlock, Exit.then])
      refine bodyPost_ret (v := .tuple #[.agg (uV V 4).toArray, .bool true]) ?_ rfl ⟨rfl, hbel⟩
      simp [results, asAddr, hld]
end Go.Proofs.YtnpffnhiefgglaaGreatDoor
