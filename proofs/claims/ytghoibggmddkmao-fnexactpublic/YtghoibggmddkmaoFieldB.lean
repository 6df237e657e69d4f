/-
  What the program's less answers. Condition: numbers below 2 to the 256th.
-/
import Derived.Test.YtghoibggmddkmaoFieldA
namespace Go.Proofs.Ytghoibggmddkmao
open Go.RowKit

set_option maxRecDepth 100000 in
set_option maxHeartbeats 8000000 in
theorem less_any (x y : Int) (w : World) (hx0 : 0 ≤ x) (hx : x < bU ^ 4) (hy0 : 0 ≤ y) (hy : y < bU ^ 4) :
    Calls Try.prog 47 #[uP x, uP y] w fun e w' => e = .returned (.tuple #[uP ((x - y) % bU ^ 4), .bool (decide (y ≤ x))]) ∧ Below w.heap.size w w' := by
  have HC : Hid (∀ k, 0 ≤ carU (lessT x y) 1 k ∧ carU (lessT x y) 1 k < bU) := fun k => carU_le (lessT_le x y) (by decide) k
  have HD : Hid (∀ k, k < 4 → digU (lessT x y) 1 k = numU ((x - y) % bU ^ 4) k) := fun k hk => dig_less hx0 hx hy0 hy hk
  have HE : Hid (carU (lessT x y) 1 4 = if y ≤ x then 1 else 0) := car_less hx0 hx hy0 hy
  clear hx0 hx hy0 hy
  have hz := (zero_of_info infoU4).1
  unfold uP
  obtain ⟨V, hV⟩ : ∃ V, V = numU ((x - y) % bU ^ 4) := ⟨_, rfl⟩
  rw [← hV] at HD ⊢
  obtain ⟨b, hb⟩ : ∃ b, b = decide (y ≤ x) := ⟨_, rfl⟩
  rw [← hb]
  clear hV
  replace hb : Hid (b = decide (y ≤ x)) := hb
  obtain ⟨A, hA⟩ : ∃ A, A = (uV (numU x) 4).toArray := ⟨_, rfl⟩
  obtain ⟨B, hB⟩ : ∃ B, B = (uV (numU y) 4).toArray := ⟨_, rfl⟩
  obtain ⟨Z, hZ⟩ : ∃ Z, Z = (uV (fun _ => 0) 4).toArray := ⟨_, rfl⟩
  obtain ⟨m0, m1, m2, bel, sz⟩ := rows3 w (numU x) (numU y) (fun _ => 0) hA hB hZ
  rw [← hA, ← hB]
  rw [← hZ] at hz
  clear hA hB hZ
  go_enter Try.func47, Try.ntmps47
  go_wp2_with (fail)
  obtain ⟨G1, hG1⟩ : ∃ G1, G1 = w.heap.size + 1 := ⟨_, rfl⟩
  obtain ⟨G2, hG2⟩ : ∃ G2, G2 = G1 + 1 := ⟨_, rfl⟩
  rw [← hG1] at m1 m2 sz ⊢
  rw [← hG2] at m2 sz ⊢
  generalize ((w.alloc (.cells A 38)).alloc (.cells B 38)).alloc (.cells Z 38) = wb at m0 m1 m2 bel sz ⊢
  refine (sums_any 1 _).mono ?_
  rintro e w1 ⟨rfl, rfl⟩
  have mo := overRow wb w.heap.size 1 (by omega)
  obtain ⟨GO, hGO⟩ : ∃ GO, GO = wb.heap.size := ⟨_, rfl⟩
  rw [← hGO] at mo ⊢
  generalize wb.alloc (.cells #[.int .u64 1] 36) = wc at mo ⊢
  have bo : Below wb.heap.size wb wc := by rw [← hGO]; exact mo.2
  have DS : Apart4 w.heap.size G1 G2 GO := ⟨by omega, by omega, by omega, by omega, by omega, by omega⟩
  have hI0 : SumI w w.heap.size w.heap.size G1 G2 GO (numU x) (numU y) (fun _ => 0) 1 wc := ⟨m0.below bo, m1.below bo, m2.below bo, mo.1, below_on bel bo⟩
  have hloR : w.heap.size ≤ G2 := by omega
  clear m0 m1 m2 mo bo bel sz hG1 hG2 hGO hz
  unfold tellV
  go_wp2_with (fail)
  go_loopw [9] (fun i wr => ∃ k : Nat, k ≤ 4 ∧ i = .int .i64 k ∧ SumI w w.heap.size w.heap.size G1 G2 GO (mixU (digU (lessT x y) 1) (numU x) k) (numU y) (fun _ => 0) (carU (lessT x y) 1 k) wr)
    (fun i _ => 4 - (intOf i).toNat)
  case atStart => exact ⟨0, by omega, rfl, hI0.congr fun i _ => (mixU_zero _ _ i).symm⟩
  case round =>
    clear hI0
    obtain ⟨k, hk, rfl, hI⟩ := hrel
    by_cases hlt : k < 4
    · have hlt' : (k : Int) < 4 := by omega
      have hD := hI.drew
      obtain ⟨wX, hwX⟩ : ∃ wX, wX = wr.drew := ⟨_, rfl⟩
      rw [← hwX] at hD
      have cn := hD.n.cell k hlt
      rw [mixU_at] at cn
      have cm := hD.m.cell k hlt
      have co := hD.o.cell 0 (by decide)
      have fo := hD.o.frozen 0
      have fn0 := hD.n.frozen k
      have la := numU_range x k
      have lb := numU_range y k
      have lc := HC.out k
      have h2 := (hD.tell DS (carU (lessT x y) 1 (k + 1))).store DS k (digU (lessT x y) 1 k)
      replace h2 := h2.congr fun i _ => mixU_step (digU (lessT x y) 1) (numU x) k i
      have h1 := hD.tell DS (carU (lessT x y) 1 (k + 1))
      have cn1 := h1.n.cell k hlt
      rw [mixU_at] at cn1
      have cm1 := h1.m.cell k hlt
      have fn1 := h1.n.frozen k
      have cm2 := h2.m.cell k hlt
      have EQ : Hid (lessT x y k = numU x k + (18446744073709551615 - numU y k) * 1) := by show numU x k + (bU - 1 - numU y k) = _; (try unfold bU); omega
      have CT := fun h h' => tell_any GO (numU x k) (18446744073709551615 - (numU y k)) 1 (carU (lessT x y) 1 k) (digU (lessT x y) 1 k) (carU (lessT x y) 1 (k + 1)) wX la (by unfold bU at lb ⊢; omega) (by decide) lc (by rw [← EQ.out]; rfl) (by rw [← EQ.out]; rfl) h h'
      have CT' := CT co fo
      clear CT EQ
      have ld := digU_range (lessT x y) 1 k
      obtain ⟨o, ho⟩ : ∃ o, o = carU (lessT x y) 1 (k + 1) := ⟨_, rfl⟩
      rw [← ho] at CT' h1 h2 cn1 cm1 cm2 fn1
      replace ho : Hid (o = carU (lessT x y) 1 (k + 1)) := ho
      generalize digU (lessT x y) 1 k = r at CT' h2 cm2 ld
      generalize numU x k = a at cn cn1 CT' la
      generalize numU y k = b at cm cm1 cm2 CT' lb
      generalize carU (lessT x y) 1 k = cc at co lc
      unfold bU at la lb lc ld
      have xb := xor_all b lb.1 lb.2
      clear co fo hI h1 hD
      replace hwX : Hid (wX = wr.drew) := hwX
      go_wp2_with (fail)
      refine wp_region_noPanic ?_
      refine wp_region_T 11 (fun X => X.cell? ⟨G1, k, none⟩ = some (.int .u64 b)) (fun X => X.cell? ⟨w.heap.size, k, none⟩ = some (.int .u64 a)) (by kernel_rfl) ?_
      rw [← hwX.out]
      clear hwX
      refine anyT_takeT (i := 0) (v := .int .i64 (k : Int)) rfl (by kernel_rfl) (by kernel_rfl) (by kernel_rfl) (by kernel_rfl) (fun _ _ _ h => h) (Or.inl ⟨by rfl, fun X hSw => by ((try dsimp only at hSw); go_simp)⟩) cm (fun _ => cn) ?_
      simp only [Act.put, List.getElem_toArray, List.getElem_cons_zero, List.setIfInBounds_toArray, List.set_cons_zero, List.set_cons_succ]
      refine anyT_takeT (i := 1) (v := tellV GO) rfl (by kernel_rfl) (by kernel_rfl) (by kernel_rfl) (by kernel_rfl) (fun _ _ _ h => h) (Or.inl ⟨by rfl, fun X hSw => by ((try dsimp only at hSw); unfold tellV; go_simp)⟩) cm (fun _ => cn) ?_
      simp only [Act.put, List.getElem_toArray, List.getElem_cons_zero, List.getElem_cons_succ, List.setIfInBounds_toArray, List.set_cons_zero, List.set_cons_succ]
      refine anyT_takeT (i := 2) (v := .int .i64 (k : Int)) rfl (by kernel_rfl) (by kernel_rfl) (by kernel_rfl) (by kernel_rfl) (fun _ _ _ h => h) (Or.inl ⟨by rfl, fun X hSw => by ((try dsimp only at hSw); go_simp)⟩) cm (fun _ => cn) ?_
      simp only [Act.put, List.getElem_toArray, List.getElem_cons_zero, List.getElem_cons_succ, List.setIfInBounds_toArray, List.set_cons_zero, List.set_cons_succ]
      refine anyT_takeT (i := 3) (v := .pointer (some ⟨w.heap.size, k, none⟩)) rfl (by kernel_rfl) (by kernel_rfl) (by kernel_rfl) (by kernel_rfl) (fun _ _ _ h => h) (Or.inl ⟨by rfl, fun X hSw => by ((try dsimp only at hSw); go_simp)⟩) cm (fun _ => cn) ?_
      simp only [Act.put, List.getElem_toArray, List.getElem_cons_zero, List.getElem_cons_succ, List.setIfInBounds_toArray, List.set_cons_zero, List.set_cons_succ]
      refine anyT_takeS (i := 4) (v := .int .u64 a) rfl rfl (by kernel_rfl) (by kernel_rfl) (by kernel_rfl) (by kernel_rfl) (by kernel_rfl) (fun _ _ _ h => h) (Or.inl ⟨by rfl, fun X hSw => by (obtain ⟨q0, q1⟩ := hSw; go_simp)⟩) cm cn ?_
      simp only [Act.put, List.getElem_toArray, List.getElem_cons_zero, List.getElem_cons_succ, List.setIfInBounds_toArray, List.set_cons_zero, List.set_cons_succ]
      refine anyT_takeT (i := 5) (v := .int .i64 (k : Int)) rfl (by kernel_rfl) (by kernel_rfl) (by kernel_rfl) (by kernel_rfl) (fun _ _ _ h => h) (Or.inl ⟨by rfl, fun X hSw => by ((try dsimp only at hSw); go_simp)⟩) cm (fun _ => cn) ?_
      simp only [Act.put, List.getElem_toArray, List.getElem_cons_zero, List.getElem_cons_succ, List.setIfInBounds_toArray, List.set_cons_zero, List.set_cons_succ]
      refine anyT_takeT (i := 6) (v := .pointer (some ⟨G1, k, none⟩)) rfl (by kernel_rfl) (by kernel_rfl) (by kernel_rfl) (by kernel_rfl) (fun _ _ _ h => h) (Or.inl ⟨by rfl, fun X hSw => by ((try dsimp only at hSw); go_simp)⟩) cm (fun _ => cn) ?_
      simp only [Act.put, List.getElem_toArray, List.getElem_cons_zero, List.getElem_cons_succ, List.setIfInBounds_toArray, List.set_cons_zero, List.set_cons_succ]
      refine anyT_takeT (i := 7) (v := .int .u64 b) rfl (by kernel_rfl) (by kernel_rfl) (by kernel_rfl) (by kernel_rfl) (fun _ _ _ h => h) (Or.inl ⟨by rfl, fun X hSw => by ((try dsimp only at hSw); go_simp)⟩) cm (fun _ => cn) ?_
      simp only [Act.put, List.getElem_toArray, List.getElem_cons_zero, List.getElem_cons_succ, List.setIfInBounds_toArray, List.set_cons_zero, List.set_cons_succ]
      refine anyT_takeT (i := 8) (v := .int .u64 (18446744073709551615 - b)) rfl (by kernel_rfl) (by kernel_rfl) (by kernel_rfl) (by kernel_rfl) (fun _ _ _ h => h) (Or.inl ⟨by rfl, fun X hSw => by ((try dsimp only at hSw); go_simp; (try exact xb))⟩) cm (fun _ => cn) ?_
      simp only [Act.put, List.getElem_toArray, List.getElem_cons_zero, List.getElem_cons_succ, List.setIfInBounds_toArray, List.set_cons_zero, List.set_cons_succ]
      refine anyT_one (i := 9) (by kernel_rfl) rfl (fun K hK => ?_)
      unfold tellV
      go_simp
      refine CT'.mono ?_
      rintro e w9 ⟨rfl, rfl⟩
      go_wp2_with (fail)
      refine hK.out _ _ cm1 (fun _ => cn1) ?_
      clear hK K
      refine anyT_takeT (i := 10) (v := .pointer (some ⟨w.heap.size, k, none⟩)) rfl (by kernel_rfl) (by kernel_rfl) (by kernel_rfl) (by kernel_rfl) (fun _ _ _ h => h) (Or.inl ⟨by rfl, fun X hSw => by ((try dsimp only at hSw); go_simp)⟩) cm1 (fun _ => cn1) ?_
      simp only [Act.put, List.getElem_toArray, List.getElem_cons_zero, List.getElem_cons_succ, List.setIfInBounds_toArray, List.set_cons_zero, List.set_cons_succ]
      refine anyT_one (i := 11) (by kernel_rfl) rfl (fun K hK => ?_)
      go_simp
      refine hK.out _ _ cm2 (fun h => by cases h) ?_
      clear hK K
      refine anyT_done (by kernel_rfl) ?_ _
      refine NoPanic.normal ?_
      clear cm cn cm1 cn1 fn0 fn1 cm2 CT'
      go_wp2_with (fail)
      go_roundw
      case rel => exact ⟨k + 1, by omega, by go_num, by rw [← ho.out]; exact h2⟩
      case measure => simp [intOf]; omega
    · obtain rfl : k = 4 := by omega
      have hno : ¬ ((4 : Nat) : Int) < 4 := by omega
      replace hI := hI.congr (f' := V) fun i hi => by rw [mixU_end _ _ hi, HD.out i hi]
      have lc := HC.out 4
      rw [HE.out] at hI lc
      obtain ⟨c4, hc4⟩ : ∃ c4 : Int, c4 = if y ≤ x then 1 else 0 := ⟨_, rfl⟩
      rw [← hc4] at hI lc
      have hq : (c4 == 1) = b := by rw [hc4, hb.out]; split <;> simp_all
      clear HC HD HE hc4 hb
      have h0 := hI.drew
      obtain ⟨wX, hwX⟩ : ∃ wX, wX = wr.drew := ⟨_, rfl⟩
      rw [← hwX] at h0
      have CT := tell_any GO 0 0 0 c4 c4 0 wX (by decide) (by decide) (by decide) lc (by unfold bU at lc ⊢; omega) (by unfold bU at lc ⊢; omega) (h0.o.cell 0 (by decide)) (h0.o.frozen 0)
      have h1 := h0.tell DS 0
      clear hI
      replace hwX : Hid (wX = wr.drew) := hwX
      go_wp2_with (fail)
      refine wp_region_noPanic ?_
      refine wp_region_T 5 (fun X => X.rangeAt w.heap.size 0 (uV V 4)) (fun _ => True) (by kernel_rfl) ?_
      rw [← hwX.out]
      clear hwX
      refine anyT_takeT (i := 0) rfl (by kernel_rfl) (by kernel_rfl) (by kernel_rfl) (by kernel_rfl) (fun _ _ _ h => h) (yieldsIf_load_mid (by rfl) _ _ rfl _ _ rfl (uV V 4) _ (fun _ hw => hw) Try.underlying38 rfl sizeU) h0.n.range (fun _ => trivial) ?_
      simp only [Act.put, List.getElem_toArray, List.getElem_cons_zero, List.setIfInBounds_toArray, List.set_cons_zero, List.set_cons_succ]
      refine anyT_takeT (i := 1) (v := tellV GO) rfl (by kernel_rfl) (by kernel_rfl) (by kernel_rfl) (by kernel_rfl) (fun _ _ _ h => h) (Or.inl ⟨by rfl, fun X hSw => by ((try dsimp only at hSw); unfold tellV; go_simp)⟩) h0.n.range (fun _ => trivial) ?_
      simp only [Act.put, List.getElem_toArray, List.getElem_cons_zero, List.getElem_cons_succ, List.setIfInBounds_toArray, List.set_cons_zero, List.set_cons_succ]
      refine anyT_one (i := 2) (by kernel_rfl) rfl (fun K hK => ?_)
      unfold tellV
      go_simp
      refine CT.mono ?_
      rintro e w9 ⟨rfl, rfl⟩
      go_wp2_with (fail)
      refine hK.out _ _ h1.n.range (fun _ => trivial) ?_
      clear hK K CT h0
      refine anyT_takeT (i := 3) (v := .bool b) rfl (by kernel_rfl) (by kernel_rfl) (by kernel_rfl) (by kernel_rfl) (fun _ _ _ h => h) (Or.inl ⟨by rfl, fun X hSw => by ((try dsimp only at hSw); go_simp; (try simp [hq]))⟩) h1.n.range (fun _ => trivial) ?_
      simp only [Act.put, List.getElem_toArray, List.getElem_cons_zero, List.getElem_cons_succ, List.setIfInBounds_toArray, List.set_cons_zero, List.set_cons_succ]
      generalize (wX.setCell ⟨GO, 0, none⟩ (.int .u64 0)) = w5 at h1 ⊢
      have hp := h1.r.put (f' := V)
      have hth2 := h1.r.there2 (f' := V)
      have hbel := h1.b.grown hp.2 h1.b.size (fun k hk => by cases hk; exact hloR)
      have hld := run_loadVar_mid (P := Try.prog) _ G2 0 38 _ _ hp.1.range Try.underlying38 rfl sizeU
      have hnr := (h1.n.kept hp.2 DS.nr.symm).range
      have hone := uV_one V 4
      have hsz2 := sizeU2 (f := V)
      clear hp h1
      refine anyT_one (i := 4) (by kernel_rfl) rfl (fun K hK => ?_)
      refine wp_store_mid 38 _ _ rfl G2 0 (uV V 4).toArray rfl rfl hth2 hsz2 (all_oneCell_toArray hone) ?_
      refine hK.out _ _ hnr (fun _ => trivial) ?_
      clear hK K
      refine anyT_one (i := 5) (by kernel_rfl) rfl (fun K hK => ?_)
      go_simp
      refine hK.out _ _ hnr (fun _ => trivial) ?_
      clear hK K
      refine anyT_done (by kernel_rfl) ?_ _
      refine NoPanic.normal ?_
      go_wp2_with (fail)
      (try simp only [Exit.inBlock, Exit.then])
      refine bodyPost_ret (v := .tuple #[.agg (uV V 4).toArray, .bool b]) ?_ rfl ⟨rfl, hbel⟩
      simp [results, asAddr, hld]

end Go.Proofs.Ytghoibggmddkmao
