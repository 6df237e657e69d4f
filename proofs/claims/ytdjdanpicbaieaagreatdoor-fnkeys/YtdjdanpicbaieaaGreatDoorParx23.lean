/-
  What the program's restOfProduct answers. Condition: numbers below 2 to the 256th.
-/
import Derived.Test.YtdjdanpicbaieaaGreatDoorParx21
import Derived.ChangeKeysEq
namespace Go.Proofs.YtdjdanpicbaieaaGreatDoor
open Go.RowKit

theorem eqItems_u64 {P : Program} (w : World) (d : Nat) {e : TypeId} (he : P.underlying e = some (.int .u64)) (hc : P.cellsOf e = 1) (hag : ∀ w, (isAgg e).run P w = .ok false w) (xs ys : List Int) : ∀ (is : List Nat), (∀ i ∈ is, i < xs.length ∧ i < ys.length) →
    (Op.eqItems (d + 1) e (P.cellsOf e) (xs.map (Value.int .u64)).toArray (ys.map (Value.int .u64)).toArray is).run P w = .ok (is.all fun i => xs.getD i 0 == ys.getD i 0) w
  | [], _ => by simp [Op.eqItems]
  | i :: is, h => by
    have h1 := h i (by simp)
    have p1 : ∀ zs : List Int, i < zs.length → (part e (zs.map (Value.int .u64)).toArray (i * 1)).run P w = .ok (.int .u64 (zs.getD i 0)) w := by
      intro zs hz
      simp [part, hag, List.getElem?_eq_getElem hz]
    have ih := eqItems_u64 w d he hc hag xs ys is (fun j hj => h j (by simp [hj]))
    rw [hc] at ih ⊢
    simp only [Op.eqItems, Sem.run_bind, p1 xs h1.1, p1 ys h1.2, Result.andThen_ok, run_equalIn_int w d e .u64 .u64 _ _ he, List.all_cons]
    simp only [List.getD_eq_getElem?_getD] at ih ⊢
    by_cases hq : xs[i]?.getD 0 = ys[i]?.getD 0
    · simp [hq, ih]
    · simp [hq]

theorem listU_all {xs ys : List Int} {n : Nat} (hx : xs.length = n) (hy : ys.length = n) : ((List.range n).all fun i => xs.getD i 0 == ys.getD i 0) = decide (xs = ys) := by
  by_cases h : xs = ys
  · subst h
    simp
  · rw [decide_eq_false h]
    rw [Bool.eq_false_iff]
    intro hall
    apply h
    apply List.ext_getElem (by omega)
    intro i h1 h2
    simp only [List.all_eq_true, List.mem_range, beq_iff_eq] at hall
    have := hall i (by omega)
    simpa [List.getElem?_eq_getElem h1, List.getElem?_eq_getElem h2] using this

theorem infoW64F : (Tryz.prog.info? 82).map (fun i => (i.zero, i.size, i.bytes)) = some (some (.int .u64 0), 1, 8) := by kernel_rfl
theorem fldEq (f g : Nat → Int) (w : World) : (Op.equalIn 10000 84 (.agg (uV f 4).toArray) (.agg (uV g 4).toArray)).run Tryz.prog w = .ok (decide (zL f 4 = zL g 4)) w := by
  obtain ⟨i0, hi⟩ : ∃ i0, Tryz.prog.info? 82 = some i0 := by
    cases h : Tryz.prog.info? 82 with
    | none => have := infoW64F; rw [h] at this; cases this
    | some i => exact ⟨i, rfl⟩
  have hc : Tryz.prog.cellsOf 82 = 1 := by kernel_rfl
  unfold uV
  rw [show (10000 : Nat) = 9998 + 1 + 1 from rfl, run_equalIn_array w (9998 + 1) _ _ Tryz.underlying84 hi, eqItems_u64 w 9998 Tryz.underlying82 hc (fun w => by simp [isAgg, run_underlying Tryz.underlying82]) (zL f 4) (zL g 4) _ (fun i hi => by rw [List.mem_range] at hi; rw [zL_length, zL_length]; omega), listU_all (zL_length f 4) (zL_length g 4)]
theorem zL_num {y : Int} (h0 : 0 ≤ y) (h1 : y < bU ^ 4) : decide (zL (numU y) 4 = zL (fun _ => 0) 4) = decide (y = 0) := by
  apply decide_eq_decide.2
  constructor
  · intro h
    refine num_inj h0 h1 (by decide) (by decide) fun k hk => ?_
    have e : (zL (numU y) 4)[k]? = (zL (fun _ => 0) 4)[k]? := by rw [h]
    simp [zL, hk] at e
    rw [e, num_nought]
  · rintro rfl
    exact List.map_congr_left fun i _ => num_nought i

set_option maxRecDepth 100000 in
set_option maxHeartbeats 8000000 in
theorem rop_any (x y : Int) (w : World) (hx0 : 0 ≤ x) (hx : x < bU ^ 4) (hy0 : 0 ≤ y) (hy : y < bU ^ 4) :
    Calls Tryz.prog 100 #[uP x, uP y] w fun e w' => e = .returned (uP ((x + y * bU ^ 4) % fldP)) ∧ Below w.heap.size w w' := by
  obtain ⟨R, hR⟩ : ∃ R, R = (x + y * bU ^ 4) % fldP := ⟨_, rfl⟩
  rw [← hR]
  replace hR : Hid (R = (x + y * bU ^ 4) % fldP) := hR
  have hgd : Tryz.prog.eqGuardType Tryz.prog.depth 84 = false := by kernel_rfl
  have hb0 : ∀ w, (Instr.build 84 #[]).run Tryz.prog w = .ok (.agg (uV (fun _ => 0) 4).toArray) w := fun w => run_build w 84 _ _ (by kernel_rfl)
  have hb1 : Hid (∀ c w, (Instr.build 84 #[(0, .int .u64 c)]).run Tryz.prog w = .ok (.agg (uV (fun k => if k = 0 then c else 0) 4).toArray) w) := fun c w => run_build w 84 _ _ (by kernel_rfl)
  have hz := (zero_of_info infoU4).1
  unfold uP
  obtain ⟨V, hV⟩ : ∃ V, V = numU R := ⟨_, rfl⟩
  rw [← hV]
  replace hV : Hid (V = numU R) := hV
  obtain ⟨A, hA⟩ : ∃ A, A = (uV (numU x) 4).toArray := ⟨_, rfl⟩
  obtain ⟨B, hB⟩ : ∃ B, B = (uV (numU y) 4).toArray := ⟨_, rfl⟩
  obtain ⟨Z, hZ⟩ : ∃ Z, Z = (uV (fun _ => 0) 4).toArray := ⟨_, rfl⟩
  obtain ⟨m0, m1, m2, bel, sz⟩ := rows3 w (numU x) (numU y) (fun _ => 0) hA hB hZ
  rw [← hA, ← hB]
  rw [← hZ] at hz hb0
  clear hA hB
  have HEQ := fun f w => fldEq f (fun _ => 0) w
  rw [← hZ] at HEQ
  clear hZ
  go_enter Tryz.func100, Tryz.ntmps100
  go_wp2_with (fail)
  obtain ⟨G1, hG1⟩ : ∃ G1, G1 = w.heap.size + 1 := ⟨_, rfl⟩
  obtain ⟨G2, hG2⟩ : ∃ G2, G2 = G1 + 1 := ⟨_, rfl⟩
  rw [← hG1] at m1 m2 sz ⊢
  rw [← hG2] at m2 sz ⊢
  generalize ((w.alloc (.cells A 84)).alloc (.cells B 84)).alloc (.cells Z 84) = wb at m0 m1 m2 bel sz ⊢
  have hloR : w.heap.size ≤ G2 := by omega
  have h1m : w.heap.size < G1 := by omega
  have h2m : G1 < G2 := by omega
  have szb : G2 < wb.heap.size := by omega
  clear hG1 hG2 sz
  go_loopw [] (fun wr => ∃ x y : Int, (0 ≤ x ∧ x < bU ^ 4) ∧ (0 ≤ y ∧ y < bU ^ 4) ∧ Hid (R = (x + y * bU ^ 4) % fldP) ∧ RowU 84 4 wr w.heap.size w.heap.size (numU x) ∧ RowU 84 4 wr w.heap.size G1 (numU y) ∧ RowU 84 4 wr w.heap.size G2 (fun _ => 0) ∧ Below w.heap.size w wr)
    (fun wr => (numRow wr w.heap.size + numRow wr G1 * bU ^ 4).toNat)
  case atStart => exact ⟨x, y, ⟨hx0, hx⟩, ⟨hy0, hy⟩, hR, m0, m1, m2, bel⟩
  case round =>
    clear m0 m1 m2 bel hx0 hx hy0 hy szb hR
    clear x y
    obtain ⟨x, y, lx, ly, hR, hn, hm, hr, bel⟩ := hrel
    have HM : Hid (numRow wr w.heap.size = x ∧ numRow wr G1 = y) := ⟨by rw [hn.num, val_four lx.1 lx.2], by rw [hm.num, val_four ly.1 ly.2]⟩
    have HQ := fun w => HEQ (numU y) w
    have hrm := hm.range
    clear HEQ
    by_cases hy : y = 0
    · have hd : decide (zL (numU y) 4 = zL (fun _ => 0) 4) = true := by rw [zL_num ly.1 ly.2]; simp [hy]
      rw [hd] at HQ
      have hV2 : V = numU (x % fldP) := by rw [hV.out, hR.out, hy, Int.zero_mul, Int.add_zero]
      have CR := fun X => rest_any x X lx.1 lx.2
      unfold uP at CR
      rw [← hV2] at CR
      obtain ⟨Y, hY⟩ : ∃ Y, Y = numU y := ⟨_, rfl⟩
      rw [← hY] at HQ hrm hm
      clear hd hV hV2 hR hY HM hy
      have hrn := hn.range
      have hsw := hn.lt
      go_wp2_with (first | (refine wpList_load_mid rfl 84 _ rfl G1 0 rfl (uV Y 4) _ hrm Tryz.underlying84 rfl sizeU ?_) | (refine wpList_build_run rfl 84 #[] rfl #[] (by simp) (hb0 _) ?_) | (refine wpList_load_mid rfl 84 _ rfl w.heap.size 0 rfl (uV (numU x) 4) _ hrn Tryz.underlying84 rfl sizeU ?_))
      refine (CR _).mono ?_
      rintro e w2 ⟨rfl, b2⟩
      have hr2 := hr.below b2
      have bel2 := below_on bel b2
      have hsz5 := b2.size
      clear hr bel hrn hrm b2 CR
      have hp := RowU.put hr2 (f' := V)
      have hth := RowU.there2 hr2 (f' := V)
      have hbel := Below.grown bel2 hp.2 (by omega) (fun k hk => by cases hk; exact hloR)
      have hld := run_loadVar_mid (P := Tryz.prog) _ G2 0 84 _ _ hp.1.range Tryz.underlying84 rfl sizeU
      clear hp
      go_wp2_with (refine wpList_store_mid rfl 84 _ _ rfl G2 0 (uV V 4).toArray rfl rfl hth sizeU2 (all_oneCell_toArray (uV_one V 4)) ?_)
      (try simp only [Exit.inBlock, Exit.then])
      refine bodyPost_ret (v := .agg (uV V 4).toArray) ?_ rfl ⟨rfl, hbel⟩
      simp [results, asAddr, Act.put, hld]
    · have hd : decide (zL (numU y) 4 = zL (fun _ => 0) 4) = false := by rw [zL_num ly.1 ly.2]; simp [hy]
      rw [hd] at HQ
      have HC : Hid (∀ k, 0 ≤ carU (overT x y) 0 k ∧ carU (overT x y) 0 k < bU) := fun k => carU_le (overT_le x y) (by decide) k
      have HD : Hid (∀ k, k < 4 → digU (overT x y) 0 k = numU ((x + y * 38) % bU ^ 4) k) := fun k hk => dig_over lx.1 lx.2 ly.1 ly.2 hk
      have HE : Hid (carU (overT x y) 0 4 = (x + y * 38) / bU ^ 4) := car_over lx.1 lx.2 ly.1 ly.2
      have h38 : (38 : Int) < bU ^ 4 := by decide
      have hpos := powU_pos 4
      have HS := Int.mul_ediv_add_emod (x + y * 38) (bU ^ 4)
      have h40 : 0 ≤ y * 38 := Int.mul_nonneg ly.1 (by decide)
      have h41 : y * 38 < y * bU ^ 4 := Int.mul_lt_mul_of_pos_left h38 (by omega)
      have HR2 : Hid (R = ((x + y * 38) % bU ^ 4 + (x + y * 38) / bU ^ 4 * bU ^ 4) % fldP) := by
        rw [Hid, hR.out, Int.mul_comm ((x + y * 38) / bU ^ 4), Int.add_comm ((x + y * 38) % bU ^ 4), HS]
        exact ((likeP.refl x).add ((show likeP (bU ^ 4) 38 from ⟨2, by decide⟩).mulL y)).mod
      have HME : Hid (((x + y * 38) % bU ^ 4 + (x + y * 38) / bU ^ 4 * bU ^ 4).toNat < (x + y * bU ^ 4).toNat) := by
        rw [Hid, Int.mul_comm ((x + y * 38) / bU ^ 4), Int.add_comm ((x + y * 38) % bU ^ 4), HS]
        have := lx.1
        omega
      have lx2 : 0 ≤ (x + y * 38) % bU ^ 4 ∧ (x + y * 38) % bU ^ 4 < bU ^ 4 := ⟨Int.emod_nonneg _ (by omega), Int.emod_lt_of_pos _ hpos⟩
      have ly3 := HC.out 4
      rw [HE.out] at ly3
      have hb4 : bU < bU ^ 4 := by decide
      have ly2 : 0 ≤ (x + y * 38) / bU ^ 4 ∧ (x + y * 38) / bU ^ 4 < bU ^ 4 := ⟨ly3.1, Int.lt_trans ly3.2 hb4⟩
      clear hb4
      obtain ⟨x2, hx2⟩ : ∃ x2, x2 = (x + y * 38) % bU ^ 4 := ⟨_, rfl⟩
      obtain ⟨y2, hy2⟩ : ∃ y2, y2 = (x + y * 38) / bU ^ 4 := ⟨_, rfl⟩
      rw [← hx2] at HD HR2 HME lx2
      rw [← hy2] at HE HR2 HME ly3 ly2
      clear hd h38 hpos HS h40 h41 hy hx2 hy2 hR
      obtain ⟨F0, hF0⟩ : ∃ F0, F0 = numU y := ⟨_, rfl⟩
      have hrm' := hrm
      rw [← hF0] at hrm' HQ
      clear hF0 hrm
      go_wp2_with (first | (refine wpList_load_mid rfl 84 _ rfl G1 0 rfl (uV F0 4) _ hrm' Tryz.underlying84 rfl sizeU ?_) | (refine wpList_build_run rfl 84 #[] rfl #[] (by simp) (hb0 _) ?_))
      clear HQ hrm' hb0
      refine (sums_any 0 _).mono ?_
      rintro e w1 ⟨rfl, rfl⟩
      have mo := overRow wr w.heap.size 0 (by have := hn.lt; omega)
      obtain ⟨GO, hGO⟩ : ∃ GO, GO = wr.heap.size := ⟨_, rfl⟩
      rw [← hGO] at mo ⊢
      generalize wr.alloc (.cells #[.int .u64 0] 82) = wc at mo ⊢
      have bo : Below wr.heap.size wr wc := by rw [← hGO]; exact mo.2
      have hg1 := hr.lt
      have DS : Apart4 w.heap.size G1 G2 GO := ⟨by omega, by omega, by omega, by omega, by omega, by omega⟩
      have hI0 : SumI w w.heap.size w.heap.size G1 G2 GO (numU x) (numU y) (fun _ => 0) 0 wc := ⟨hn.below bo, hm.below bo, hr.below bo, mo.1, below_on bel bo⟩
      clear hn hm hr mo bo bel hGO hg1
      unfold tellV
      go_wp2_with (fail)
      go_loopw [11] (fun i wr => ∃ k : Nat, k ≤ 4 ∧ i = .int .i64 k ∧ SumI w w.heap.size w.heap.size G1 G2 GO (mixU (digU (overT x y) 0) (numU x) k) (numU y) (fun _ => 0) (carU (overT x y) 0 k) wr)
        (fun i _ => 4 - (intOf i).toNat)
      case atStart => exact ⟨0, by omega, rfl, hI0.congr fun i _ => (mixU_zero _ _ i).symm⟩
      case round =>
        clear hI0
        obtain ⟨k, hk, rfl, hI⟩ := hrel
        by_cases hlt : k < 4
        · have hlt' : (k : Int) < 4 := by omega
          have hD := hI.drew
          obtain ⟨wX, hwX⟩ : ∃ wX, wX = wr.drew := ⟨_, rfl⟩
          rw [← hwX] at hD
          have cn := hD.n.cell k hlt
          rw [mixU_at] at cn
          have cm := hD.m.cell k hlt
          have co := hD.o.cell 0 (by decide)
          have fo := hD.o.frozen 0
          have fn0 := hD.n.frozen k
          have la := numU_range x k
          have lb := numU_range y k
          have lc := HC.out k
          have h2 := (hD.tell DS (carU (overT x y) 0 (k + 1))).store DS k (digU (overT x y) 0 k)
          replace h2 := h2.congr fun i _ => mixU_step (digU (overT x y) 0) (numU x) k i
          have h1 := hD.tell DS (carU (overT x y) 0 (k + 1))
          have cn1 := h1.n.cell k hlt
          rw [mixU_at] at cn1
          have cm1 := h1.m.cell k hlt
          have fn1 := h1.n.frozen k
          have cm2 := h2.m.cell k hlt
          have EQ : Hid (overT x y k = numU x k + numU y k * 38) := by show numU x k + numU y k * 38 = _; (try unfold bU); omega
          have CT := fun h h' => tell_any GO (numU x k) (numU y k) 38 (carU (overT x y) 0 k) (digU (overT x y) 0 k) (carU (overT x y) 0 (k + 1)) wX la (by unfold bU at lb ⊢; omega) (by decide) lc (by rw [← EQ.out]; rfl) (by rw [← EQ.out]; rfl) h h'
          have CT' := CT co fo
          clear CT EQ
          have ld := digU_range (overT x y) 0 k
          obtain ⟨o, ho⟩ : ∃ o, o = carU (overT x y) 0 (k + 1) := ⟨_, rfl⟩
          rw [← ho] at CT' h1 h2 cn1 cm1 cm2 fn1
          replace ho : Hid (o = carU (overT x y) 0 (k + 1)) := ho
          generalize digU (overT x y) 0 k = r at CT' h2 cm2 ld
          generalize numU x k = a at cn cn1 CT' la
          generalize numU y k = b at cm cm1 cm2 CT' lb
          generalize carU (overT x y) 0 k = cc at co lc
          unfold bU at la lb lc ld
          clear co fo hI h1 hD
          replace hwX : Hid (wX = wr.drew) := hwX
          go_wp2_with (fail)
          refine wp_region_noPanic ?_
          refine wp_region_T 10 (fun X => X.cell? ⟨G1, k, none⟩ = some (.int .u64 b)) (fun X => X.cell? ⟨w.heap.size, k, none⟩ = some (.int .u64 a)) (by kernel_rfl) ?_
          rw [← hwX.out]
          clear hwX
          refine anyT_takeT (i := 0) (v := .int .i64 (k : Int)) rfl (by kernel_rfl) (by kernel_rfl) (by kernel_rfl) (by kernel_rfl) (fun _ _ _ h => h) (Or.inl ⟨by rfl, fun X hSw => by ((try dsimp only at hSw); go_simp)⟩) cm (fun _ => cn) ?_
          simp only [Act.put, List.getElem_toArray, List.getElem_cons_zero, List.setIfInBounds_toArray, List.set_cons_zero, List.set_cons_succ]
          refine anyT_takeT (i := 1) (v := tellV GO) rfl (by kernel_rfl) (by kernel_rfl) (by kernel_rfl) (by kernel_rfl) (fun _ _ _ h => h) (Or.inl ⟨by rfl, fun X hSw => by ((try dsimp only at hSw); unfold tellV; go_simp)⟩) cm (fun _ => cn) ?_
          simp only [Act.put, List.getElem_toArray, List.getElem_cons_zero, List.getElem_cons_succ, List.setIfInBounds_toArray, List.set_cons_zero, List.set_cons_succ]
          refine anyT_takeT (i := 2) (v := .int .i64 (k : Int)) rfl (by kernel_rfl) (by kernel_rfl) (by kernel_rfl) (by kernel_rfl) (fun _ _ _ h => h) (Or.inl ⟨by rfl, fun X hSw => by ((try dsimp only at hSw); go_simp)⟩) cm (fun _ => cn) ?_
          simp only [Act.put, List.getElem_toArray, List.getElem_cons_zero, List.getElem_cons_succ, List.setIfInBounds_toArray, List.set_cons_zero, List.set_cons_succ]
          refine anyT_takeT (i := 3) (v := .pointer (some ⟨w.heap.size, k, none⟩)) rfl (by kernel_rfl) (by kernel_rfl) (by kernel_rfl) (by kernel_rfl) (fun _ _ _ h => h) (Or.inl ⟨by rfl, fun X hSw => by ((try dsimp only at hSw); go_simp)⟩) cm (fun _ => cn) ?_
          simp only [Act.put, List.getElem_toArray, List.getElem_cons_zero, List.getElem_cons_succ, List.setIfInBounds_toArray, List.set_cons_zero, List.set_cons_succ]
          refine anyT_takeS (i := 4) (v := .int .u64 a) rfl rfl (by kernel_rfl) (by kernel_rfl) (by kernel_rfl) (by kernel_rfl) (by kernel_rfl) (fun _ _ _ h => h) (Or.inl ⟨by rfl, fun X hSw => by (obtain ⟨q0, q1⟩ := hSw; go_simp)⟩) cm cn ?_
          simp only [Act.put, List.getElem_toArray, List.getElem_cons_zero, List.getElem_cons_succ, List.setIfInBounds_toArray, List.set_cons_zero, List.set_cons_succ]
          refine anyT_takeT (i := 5) (v := .int .i64 (k : Int)) rfl (by kernel_rfl) (by kernel_rfl) (by kernel_rfl) (by kernel_rfl) (fun _ _ _ h => h) (Or.inl ⟨by rfl, fun X hSw => by ((try dsimp only at hSw); go_simp)⟩) cm (fun _ => cn) ?_
          simp only [Act.put, List.getElem_toArray, List.getElem_cons_zero, List.getElem_cons_succ, List.setIfInBounds_toArray, List.set_cons_zero, List.set_cons_succ]
          refine anyT_takeT (i := 6) (v := .pointer (some ⟨G1, k, none⟩)) rfl (by kernel_rfl) (by kernel_rfl) (by kernel_rfl) (by kernel_rfl) (fun _ _ _ h => h) (Or.inl ⟨by rfl, fun X hSw => by ((try dsimp only at hSw); go_simp)⟩) cm (fun _ => cn) ?_
          simp only [Act.put, List.getElem_toArray, List.getElem_cons_zero, List.getElem_cons_succ, List.setIfInBounds_toArray, List.set_cons_zero, List.set_cons_succ]
          refine anyT_takeT (i := 7) (v := .int .u64 b) rfl (by kernel_rfl) (by kernel_rfl) (by kernel_rfl) (by kernel_rfl) (fun _ _ _ h => h) (Or.inl ⟨by rfl, fun X hSw => by ((try dsimp only at hSw); go_simp)⟩) cm (fun _ => cn) ?_
          simp only [Act.put, List.getElem_toArray, List.getElem_cons_zero, List.getElem_cons_succ, List.setIfInBounds_toArray, List.set_cons_zero, List.set_cons_succ]
          refine anyT_one (i := 8) (by kernel_rfl) rfl (fun K hK => ?_)
          unfold tellV
          go_simp
          refine CT'.mono ?_
          rintro e w9 ⟨rfl, rfl⟩
          go_wp2_with (fail)
          refine hK.out _ _ cm1 (fun _ => cn1) ?_
          clear hK K
          refine anyT_takeT (i := 9) (v := .pointer (some ⟨w.heap.size, k, none⟩)) rfl (by kernel_rfl) (by kernel_rfl) (by kernel_rfl) (by kernel_rfl) (fun _ _ _ h => h) (Or.inl ⟨by rfl, fun X hSw => by ((try dsimp only at hSw); go_simp)⟩) cm1 (fun _ => cn1) ?_
          simp only [Act.put, List.getElem_toArray, List.getElem_cons_zero, List.getElem_cons_succ, List.setIfInBounds_toArray, List.set_cons_zero, List.set_cons_succ]
          refine anyT_one (i := 10) (by kernel_rfl) rfl (fun K hK => ?_)
          go_simp
          refine hK.out _ _ cm2 (fun h => by cases h) ?_
          clear hK K
          refine anyT_done (by kernel_rfl) ?_ _
          refine NoPanic.normal ?_
          clear cm cn cm1 cn1 fn0 fn1 cm2 CT'
          go_wp2_with (fail)
          go_roundw
          case rel => exact ⟨k + 1, by omega, by go_num, by rw [← ho.out]; exact h2⟩
          case measure => simp [intOf]; omega
        · obtain rfl : k = 4 := by omega
          have hno : ¬ ((4 : Nat) : Int) < 4 := by omega
          replace hI := hI.congr (f' := numU x2) fun i hi => by rw [mixU_end _ _ hi, HD.out i hi]
          rw [HE.out] at hI
          have CT := tell_any GO 0 0 0 y2 y2 0 wr (by decide) (by decide) (by decide) ly3 (by unfold bU at ly3 ⊢; omega) (by unfold bU at ly3 ⊢; omega) (hI.o.cell 0 (by decide)) (hI.o.frozen 0)
          have h1 := hI.tell DS 0
          clear HC HD HE hI
          go_wp2_with (fail)
          refine CT.mono ?_
          rintro e w9 ⟨rfl, rfl⟩
          have hb2 := fun w => hb1.out y2 w
          have hFe : uV (fun k => if k = 0 then y2 else 0) 4 = uV (numU y2) 4 := uV_congr fun i _ => (num_one ly3.1 ly3.2 i).symm
          rw [hFe] at hb2
          generalize (World.setCell _ ⟨GO, 0, none⟩ (.int .u64 0)) = w5 at h1 ⊢
          have hp := h1.m.put (f' := numU y2)
          have hth := h1.m.there2 (f' := numU y2)
          have hn3 := h1.n.kept hp.2 DS.nm.symm
          have hr3 := h1.r.kept hp.2 (by omega)
          have bel3 := h1.b.grown hp.2 (by have := h1.n.lt; omega) (fun k hk => by cases hk; omega)
          have hm3 := hp.1
          clear hp h1 CT hFe
          obtain ⟨Y2, hY2⟩ : ∃ Y2, Y2 = numU y2 := ⟨_, rfl⟩
          rw [← hY2] at hb2 hth hn3 hr3 bel3 hm3
          replace hY2 : Hid (Y2 = numU y2) := hY2
          go_wp2_with (first | (refine wpList_build_run rfl 84 #[(0, .tmp 26)] rfl #[(0, .int .u64 y2)] (by simp [Act.eval]) (hb2 _) ?_) | (refine wpList_store_mid rfl 84 _ _ rfl G1 0 (uV Y2 4).toArray rfl rfl hth sizeU2 (all_oneCell_toArray (uV_one Y2 4)) ?_))
          refine ⟨⟨_, _, _, _, _, _, _, _, _, _, _, _, _, _, _, _, _, _, _, _, _, _, _, ?rel, rfl⟩, ?measure⟩
          case rel => exact ⟨x2, y2, lx2, ly2, HR2, hn3, by rw [← hY2.out]; exact hm3, hr3, bel3⟩
          case measure =>
            rw [hn3.num, hm3.num, HM.out.1, HM.out.2, hY2.out, val_four lx2.1 lx2.2, val_four ly2.1 ly2.2]
            exact HME.out

end Go.Proofs.YtdjdanpicbaieaaGreatDoor
