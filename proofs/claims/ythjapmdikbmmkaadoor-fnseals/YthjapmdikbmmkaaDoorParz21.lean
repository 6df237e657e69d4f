/-
  A part of the proof.
-/
import Derived.Conc.WalkWords
import Derived.Test.YthjapmdikbmmkaaDoorParz20
import Derived.BigRegion
import Derived.Test.YthjapmdikbmmkaaDoorParz14
namespace Go.Proofs.YthjapmdikbmmkaaDoor
open Go.RowKit
set_option maxRecDepth 100000
def placesC : List Value := (placesL.flatten).map fun (n : Nat) => Value.int .i64 (n : Int)
def PlacesIs (w : World) : Prop := w.rangeAt 0 0 placesC
def fourV (k : Nat) : Array Value := #[.int .i64 (placeN k 0 : Int), .int .i64 (placeN k 1 : Int), .int .i64 (placeN k 2 : Int), .int .i64 (placeN k 3 : Int)]
theorem indexPlaces (k : Nat) (hk : k < 8) (w : World) : (Instr.index 91 (.agg placesC.toArray) (.int .i64 (k : Int))).run Tryd.prog w = .ok (.agg (fourV k)) w := by
  have i0 : ∀ w : World, (Instr.index 91 (.agg placesC.toArray) (.int .i64 0)).run Tryd.prog w = .ok (.agg (fourV 0)) w := fun _ => by kernel_rfl
  have i1 : ∀ w : World, (Instr.index 91 (.agg placesC.toArray) (.int .i64 1)).run Tryd.prog w = .ok (.agg (fourV 1)) w := fun _ => by kernel_rfl
  have i2 : ∀ w : World, (Instr.index 91 (.agg placesC.toArray) (.int .i64 2)).run Tryd.prog w = .ok (.agg (fourV 2)) w := fun _ => by kernel_rfl
  have i3 : ∀ w : World, (Instr.index 91 (.agg placesC.toArray) (.int .i64 3)).run Tryd.prog w = .ok (.agg (fourV 3)) w := fun _ => by kernel_rfl
  have i4 : ∀ w : World, (Instr.index 91 (.agg placesC.toArray) (.int .i64 4)).run Tryd.prog w = .ok (.agg (fourV 4)) w := fun _ => by kernel_rfl
  have i5 : ∀ w : World, (Instr.index 91 (.agg placesC.toArray) (.int .i64 5)).run Tryd.prog w = .ok (.agg (fourV 5)) w := fun _ => by kernel_rfl
  have i6 : ∀ w : World, (Instr.index 91 (.agg placesC.toArray) (.int .i64 6)).run Tryd.prog w = .ok (.agg (fourV 6)) w := fun _ => by kernel_rfl
  have i7 : ∀ w : World, (Instr.index 91 (.agg placesC.toArray) (.int .i64 7)).run Tryd.prog w = .ok (.agg (fourV 7)) w := fun _ => by kernel_rfl
  have h8 : k = 0 ∨ k = 1 ∨ k = 2 ∨ k = 3 ∨ k = 4 ∨ k = 5 ∨ k = 6 ∨ k = 7 := by omega
  rcases h8 with rfl | rfl | rfl | rfl | rfl | rfl | rfl | rfl
  · exact i0 w
  · exact i1 w
  · exact i2 w
  · exact i3 w
  · exact i4 w
  · exact i5 w
  · exact i6 w
  · exact i7 w
theorem infoFour : (Tryd.prog.info? 90).map (fun i => (i.zero, i.size)) = some (some (.agg #[.int .i64 0, .int .i64 0, .int .i64 0, .int .i64 0]), 4) := by kernel_rfl
theorem infoPlaces : (Tryd.prog.info? 91).map (·.size) = some 32 := by kernel_rfl
theorem placeN_lt (k i : Nat) (hk : k < 8) (hi : i < 4) : placeN k i < 16 := by
  have h8 : k = 0 ∨ k = 1 ∨ k = 2 ∨ k = 3 ∨ k = 4 ∨ k = 5 ∨ k = 6 ∨ k = 7 := by omega
  have h4 : i = 0 ∨ i = 1 ∨ i = 2 ∨ i = 3 := by omega
  rcases h8 with rfl | rfl | rfl | rfl | rfl | rfl | rfl | rfl <;> rcases h4 with rfl | rfl | rfl | rfl <;> decide
theorem placeN_ne (k : Nat) (hk : k < 8) : placeN k 0 ≠ placeN k 1 ∧ placeN k 0 ≠ placeN k 2 ∧ placeN k 0 ≠ placeN k 3 ∧ placeN k 1 ≠ placeN k 2 ∧ placeN k 1 ≠ placeN k 3 ∧ placeN k 2 ≠ placeN k 3 := by
  have h8 : k = 0 ∨ k = 1 ∨ k = 2 ∨ k = 3 ∨ k = 4 ∨ k = 5 ∨ k = 6 ∨ k = 7 := by omega
  rcases h8 with rfl | rfl | rfl | rfl | rfl | rfl | rfl | rfl <;> decide
set_option maxHeartbeats 4000000 in
theorem block_any (S F : List Nat) (count : Int) (w : World) (hl : S.length = 16) (hF : F = S.set 12 (wordN count)) (hS : lowS F) (hP : PlacesIs w) :
    Calls Tryd.prog 58 #[.agg (strL S).toArray, .int .i64 count] w fun e w' => ∃ p' c', e = .returned (.slice p' 64 c') ∧ Own 5 w' w.heap.size w'.heap.size (.slice p' 64 c') 64 (bytesL false (sumS (tenS F 10) F)) ∧ Below w.heap.size w w' := by
  have hz := (zero_of_info infoStr).1
  have hsz0 := (zero_of_info infoStr).2
  have lF : F.length = 16 := by rw [hF]; simpa using hl
  have hu := wordN_eq count
  generalize wordN count = u at hF hu
  have mu : count % 4294967296 = (u : Int) := hu.symm
  have wu : IntKind.u32.wrap count = (u : Int) := by rw [IntKind.wrap_u32]; exact mu
  have eF : (strL S).set 12 (.int .u32 (u : Int)) = strL F := by rw [hF]; simp [strL, List.map_set]
  have m0 := StrIs.made w w.heap.size F lF (Nat.le_refl _)
  obtain ⟨WA, hWA⟩ : ∃ WA, WA = w.alloc (.cells (strL F).toArray 53) := ⟨_, rfl⟩
  have hWA' : w.alloc (.cells ((strL S).set 12 (.int .u32 (u : Int))).toArray 53) = WA := by rw [eF, hWA]
  have ba : Below w.heap.size w WA := by rw [hWA]; exact (Below.refl _ _).alloc (Nat.le_refl _) _
  have sa : WA.heap.size = w.heap.size + 1 := by rw [hWA]; simp
  rw [← hWA] at m0
  have hsC : (strL F).toArray.size = 16 := by simp [strL_length, lF]
  have hone : ∀ v ∈ strL F, v.oneCell' = true := strL_one _
  have hsz : (Tryd.prog.info? 53).map (·.size) = some (strL F).length := by rw [strL_length, lF]; exact hsz0
  have hsz2 : (Tryd.prog.info? 53).map (·.size) = some (strL F).toArray.size := by rw [hsC]; exact hsz0
  have hra := m0.range
  have m1 := StrIs.made WA w.heap.size zero16 rfl (by omega)
  rw [sa] at m1
  have bb : Below WA.heap.size WA (WA.alloc (.cells (strL zero16).toArray 53)) := (Below.refl _ _).alloc (Nat.le_refl _) _
  obtain ⟨Z, hZ⟩ : ∃ Z, Z = (strL zero16).toArray := ⟨_, rfl⟩
  rw [← hZ] at hz m1 bb
  clear hZ
  have hth : (WA.alloc (.cells Z 53)).there (w.heap.size + 1) 0 (strL F).toArray.size := by rw [hsC]; exact m1.there
  have h3 := m1.put lF
  have h2 := (m0.below bb).kept h3.2 (by omega)
  have bel := (below_on ba bb).grown h3.2 (below_on ba bb).size (fun k hk => by cases hk; omega)
  obtain ⟨Cs, hCs⟩ : ∃ Cs, Cs = strL F := ⟨_, rfl⟩
  rw [← hCs] at hra hsz hsz2 hth hone
  have h12 : (strL S)[12]? = some (.int .u32 ((S.getD 12 0 : Nat) : Int)) := strL_get S 12 (by omega)
  have l12 : (strL S).length = 16 := by rw [strL_length, hl]
  obtain ⟨C0, hC0⟩ : ∃ C0, C0 = strL S := ⟨_, rfl⟩
  rw [← hC0] at hWA' h12 l12 ⊢
  have g12 : 12 < C0.length := by omega
  replace hCs : Hid (Cs = strL F) := hCs
  clear hC0 hF eF hWA m0 m1 ba bb hu
  go_enter Tryd.func58, Tryd.ntmps58
  go_wp2_with (first | (refine wpList_load_mid rfl 53 _ rfl w.heap.size 0 rfl Cs _ hra Tryd.underlying53 rfl hsz ?_) | (refine wpList_store_mid rfl 53 _ _ rfl (w.heap.size + 1) 0 Cs.toArray rfl rfl hth hsz2 (all_oneCell_toArray hone) ?_))
  obtain ⟨GF, hGF⟩ : ∃ GF, GF = w.heap.size + 1 := ⟨_, rfl⟩
  rw [← hGF] at h2 h3 bel ⊢
  have hge : w.heap.size < GF := by omega
  rw [← hCs.out] at h2 h3 bel
  have h31 := h3.1
  generalize (WA.alloc (.cells Z 53)).setCells GF 0 Cs = wb at h2 h31 bel ⊢
  clear h3 hra hth hWA' sa hGF hz h12 l12 g12 mu wu hsC hone hsz hsz2 hsz0
  have hgp : 0 < w.heap.size := World.block_lt_of_cell? w ⟨0, 0 + 0, none⟩ (hP 0 _ rfl)
  have HP : Hid (∀ X, Below w.heap.size w X → X.rangeAt 0 0 placesC) := fun X hX j v hv => (hX.cell (p := ⟨0, 0 + j, none⟩) hgp).trans (hP j v hv)
  have hszP : (Tryd.prog.info? 91).map (·.size) = some placesC.length := infoPlaces
  have HX : Hid (∀ k : Nat, k < 8 → ∀ w : World, (Instr.index 91 (.agg placesC.toArray) (.int .i64 (k : Int))).run Tryd.prog w = .ok (.agg (fourV k)) w) := indexPlaces
  generalize placesC = PC at HP hszP HX
  have hz4 := (zero_of_info infoFour).1
  have HT : Hid (∀ k, eightS (tenS F k) 8 = tenS F (k + 1)) := fun _ => rfl
  have HL : Hid (∀ k, lowS (tenS F k)) := tenS_low hS
  clear hP hgp
  go_loopw [14] (fun i wr => ∃ k : Nat, k ≤ 10 ∧ i = .int .i64 k ∧ StrIs wr w.heap.size w.heap.size (tenS F k) ∧ StrIs wr w.heap.size GF F ∧ Below w.heap.size w wr)
    (fun i _ => 10 - (intOf i).toNat)
  case atStart => exact ⟨0, by omega, rfl, h2, h31, bel⟩
  case round =>
    clear h2 h31 bel
    obtain ⟨k, hk, rfl, h2, h3, bel⟩ := hrel
    by_cases hlt : k < 10
    · have hlt' : (k : Int) < 10 := by omega
      have HTk : Hid (eightS (tenS F k) 8 = tenS F (k + 1)) := HT.out k
      have hLk := HL.out k
      generalize tenS F k = A at h2 HTk hLk
      have hra := HP.out _ bel
      go_wp2_with (refine wpList_load_mid rfl 91 _ rfl 0 0 rfl PC _ hra Tryd.underlying91 rfl hszP ?_)
      clear hra
      have h20 : StrIs wr w.heap.size w.heap.size (eightS A 0) := h2
      go_loopw [17] (fun i wr => ∃ j : Nat, j ≤ 8 ∧ i = .int .i64 j ∧ StrIs wr w.heap.size w.heap.size (eightS A j) ∧ StrIs wr w.heap.size GF F ∧ Below w.heap.size w wr)
        (fun i _ => 8 - (intOf i).toNat)
      case atStart => exact ⟨0, by omega, rfl, h20, h3, bel⟩
      case round =>
        clear h20 h2 h3 bel
        obtain ⟨j, hj, rfl, h2, h3, bel⟩ := hrel
        by_cases hltj : j < 8
        · have hltj' : (j : Int) < 8 := by omega
          have hix := HX.out j hltj
          unfold fourV at hix
          have p0 := placeN_lt j 0 hltj (by decide)
          have p1 := placeN_lt j 1 hltj (by decide)
          have p2 := placeN_lt j 2 hltj (by decide)
          have p3 := placeN_lt j 3 hltj (by decide)
          have HD : Hid _ := placeN_ne j hltj
          have HE : Hid (quarterS (eightS A j) (placeN j 0) (placeN j 1) (placeN j 2) (placeN j 3) = eightS A (j + 1)) := rfl
          have hlow := eightS_low hLk j
          generalize eightS A j = E at h2 HE hlow
          generalize placeN j 0 = ia at hix p0 HD HE
          generalize placeN j 1 = ib at hix p1 HD HE
          generalize placeN j 2 = ic at hix p2 HD HE
          generalize placeN j 3 = id at hix p3 HD HE
          obtain ⟨ea, hea⟩ : ∃ ea, ea = E.getD ia 0 := ⟨_, rfl⟩
          obtain ⟨eb, heb⟩ : ∃ eb, eb = E.getD ib 0 := ⟨_, rfl⟩
          obtain ⟨ec, hec⟩ : ∃ ec, ec = E.getD ic 0 := ⟨_, rfl⟩
          obtain ⟨ed, hed⟩ : ∃ ed, ed = E.getD id 0 := ⟨_, rfl⟩
          have la : ea < 4294967296 := by rw [hea]; exact hlow.get _
          have lb : eb < 4294967296 := by rw [heb]; exact hlow.get _
          have lc : ec < 4294967296 := by rw [hec]; exact hlow.get _
          have ld : ed < 4294967296 := by rw [hed]; exact hlow.get _
          have CQ := fun X => quarter_same ea eb ec ed X lb ld
          unfold quarterS at HE
          rw [← hea, ← heb, ← hec, ← hed] at HE
          simp only at CQ HE
          have lq := quarterN_low (a := ea) (c := ec) lb ld
          generalize quarterN ea eb ec ed = q at CQ lq HE
          obtain ⟨qa, qb, qc, qd⟩ := q
          simp only at CQ lq HE
          obtain ⟨l1, l2, l3, l4⟩ := lq
          obtain ⟨GP, hGP⟩ : ∃ GP, GP = wr.heap.size := ⟨_, rfl⟩
          have r1 : (ia : Int) < 16 := by omega
          have r2 : (ib : Int) < 16 := by omega
          have r3 : (ic : Int) < 16 := by omega
          have r4 : (id : Int) < 16 := by omega
          have hsw := bel.size
          have hne1 : w.heap.size ≠ GP := by have := h2.lt; omega
          go_wp2_with (fail)
          have bP : Below wr.heap.size wr (wr.alloc (.cells #[.int .i64 (ia : Int), .int .i64 (ib : Int), .int .i64 (ic : Int), .int .i64 (id : Int)] 90)) := (Below.refl _ _).alloc (Nat.le_refl _) _
          have hT0 : ∀ X, Below (wr.heap.size + 1) (wr.alloc (.cells #[.int .i64 (ia : Int), .int .i64 (ib : Int), .int .i64 (ic : Int), .int .i64 (id : Int)] 90)) X → X.cell? ⟨wr.heap.size, 0, none⟩ = some (.int .i64 (ia : Int)) ∧ X.cell? ⟨wr.heap.size, 1, none⟩ = some (.int .i64 (ib : Int)) ∧ X.cell? ⟨wr.heap.size, 2, none⟩ = some (.int .i64 (ic : Int)) ∧ X.cell? ⟨wr.heap.size, 3, none⟩ = some (.int .i64 (id : Int)) := fun X hX => by
            have hc := fun i : Nat => hX.cell (p := ⟨wr.heap.size, i, none⟩) (Nat.lt_succ_self _)
            exact ⟨(hc 0).trans (cell_of_row _ _ _ _ _ _ (heap_alloc_new wr _)), (hc 1).trans (cell_of_row _ _ _ _ _ _ (heap_alloc_new wr _)), (hc 2).trans (cell_of_row _ _ _ _ _ _ (heap_alloc_new wr _)), (hc 3).trans (cell_of_row _ _ _ _ _ _ (heap_alloc_new wr _))⟩
          have hT := hT0 _ ((Below.refl _ _).drew)
          have gT : ∀ X Y : World, X.grownBy Y (some w.heap.size) → GP < X.heap.size → (X.cell? ⟨GP, 0, none⟩ = some (.int .i64 (ia : Int)) ∧ X.cell? ⟨GP, 1, none⟩ = some (.int .i64 (ib : Int)) ∧ X.cell? ⟨GP, 2, none⟩ = some (.int .i64 (ic : Int)) ∧ X.cell? ⟨GP, 3, none⟩ = some (.int .i64 (id : Int))) → (Y.cell? ⟨GP, 0, none⟩ = some (.int .i64 (ia : Int)) ∧ Y.cell? ⟨GP, 1, none⟩ = some (.int .i64 (ib : Int)) ∧ Y.cell? ⟨GP, 2, none⟩ = some (.int .i64 (ic : Int)) ∧ Y.cell? ⟨GP, 3, none⟩ = some (.int .i64 (id : Int))) := fun X Y hg hl h => by
            have hc := fun i : Nat => cell_grownQ (p := ⟨GP, i, none⟩) hg hl (Ne.symm hne1)
            exact ⟨(hc 0).trans h.1, (hc 1).trans h.2.1, (hc 2).trans h.2.2.1, (hc 3).trans h.2.2.2⟩
          replace h2 := (h2.below bP).below ((Below.refl _ _).drew)
          replace h3 := (h3.below bP).below ((Below.refl _ _).drew)
          have belX := below_on (below_on bel bP) ((Below.refl _ _).drew)
          have hGl : GP < (wr.alloc (.cells #[.int .i64 (ia : Int), .int .i64 (ib : Int), .int .i64 (ic : Int), .int .i64 (id : Int)] 90)).drew.heap.size := by rw [hGP]; simp
          rw [← hGP] at hT ⊢
          clear hT0 bP bel hGP
          refine wp_region_noPanic ?_
          refine wp_region_T 31 (fun X => X.cell? ⟨GP, 0, none⟩ = some (.int .i64 (ia : Int)) ∧ X.cell? ⟨GP, 1, none⟩ = some (.int .i64 (ib : Int)) ∧ X.cell? ⟨GP, 2, none⟩ = some (.int .i64 (ic : Int)) ∧ X.cell? ⟨GP, 3, none⟩ = some (.int .i64 (id : Int))) (fun X => X.cell? ⟨w.heap.size, ia, none⟩ = some (.int .u32 (ea : Int)) ∧ X.cell? ⟨w.heap.size, ib, none⟩ = some (.int .u32 (eb : Int)) ∧ X.cell? ⟨w.heap.size, ic, none⟩ = some (.int .u32 (ec : Int)) ∧ X.cell? ⟨w.heap.size, id, none⟩ = some (.int .u32 (ed : Int))) (by kernel_rfl) ?_
          generalize (wr.alloc (.cells #[.int .i64 (ia : Int), .int .i64 (ib : Int), .int .i64 (ic : Int), .int .i64 (id : Int)] 90)).drew = wX at hT h2 h3 belX hGl ⊢
          have hS : wX.cell? ⟨w.heap.size, ia, none⟩ = some (.int .u32 (ea : Int)) ∧ wX.cell? ⟨w.heap.size, ib, none⟩ = some (.int .u32 (eb : Int)) ∧ wX.cell? ⟨w.heap.size, ic, none⟩ = some (.int .u32 (ec : Int)) ∧ wX.cell? ⟨w.heap.size, id, none⟩ = some (.int .u32 (ed : Int)) := ⟨by rw [hea]; exact h2.cell ia p0, by rw [heb]; exact h2.cell ib p1, by rw [hec]; exact h2.cell ic p2, by rw [hed]; exact h2.cell id p3⟩
          clear hea heb hec hed
          refine anyT_takeT (i := 0) (v := .pointer (some ⟨GP, 0, none⟩)) rfl (by kernel_rfl) (by kernel_rfl) (by kernel_rfl) (by kernel_rfl) (fun _ _ _ h => h) (Or.inl ⟨by rfl, fun X hSw => by ((try dsimp only at hSw); go_simp)⟩) hT (fun _ => hS) ?_
          walk_nrm
          refine anyT_takeT (i := 1) (v := .int .i64 (ia : Int)) rfl (by kernel_rfl) (by kernel_rfl) (by kernel_rfl) (by kernel_rfl) (fun _ _ _ h => h) (Or.inl ⟨by rfl, fun X hSw => by (obtain ⟨q1, q2, q3, q4⟩ := hSw; go_simp)⟩) hT (fun _ => hS) ?_
          walk_nrm
          refine anyT_takeT (i := 2) (v := .pointer (some ⟨GP, 1, none⟩)) rfl (by kernel_rfl) (by kernel_rfl) (by kernel_rfl) (by kernel_rfl) (fun _ _ _ h => h) (Or.inl ⟨by rfl, fun X hSw => by ((try dsimp only at hSw); go_simp)⟩) hT (fun _ => hS) ?_
          walk_nrm
          refine anyT_takeT (i := 3) (v := .int .i64 (ib : Int)) rfl (by kernel_rfl) (by kernel_rfl) (by kernel_rfl) (by kernel_rfl) (fun _ _ _ h => h) (Or.inl ⟨by rfl, fun X hSw => by (obtain ⟨q1, q2, q3, q4⟩ := hSw; go_simp)⟩) hT (fun _ => hS) ?_
          walk_nrm
          refine anyT_takeT (i := 4) (v := .pointer (some ⟨GP, 2, none⟩)) rfl (by kernel_rfl) (by kernel_rfl) (by kernel_rfl) (by kernel_rfl) (fun _ _ _ h => h) (Or.inl ⟨by rfl, fun X hSw => by ((try dsimp only at hSw); go_simp)⟩) hT (fun _ => hS) ?_
          walk_nrm
          refine anyT_takeT (i := 5) (v := .int .i64 (ic : Int)) rfl (by kernel_rfl) (by kernel_rfl) (by kernel_rfl) (by kernel_rfl) (fun _ _ _ h => h) (Or.inl ⟨by rfl, fun X hSw => by (obtain ⟨q1, q2, q3, q4⟩ := hSw; go_simp)⟩) hT (fun _ => hS) ?_
          walk_nrm
          refine anyT_takeT (i := 6) (v := .pointer (some ⟨GP, 3, none⟩)) rfl (by kernel_rfl) (by kernel_rfl) (by kernel_rfl) (by kernel_rfl) (fun _ _ _ h => h) (Or.inl ⟨by rfl, fun X hSw => by ((try dsimp only at hSw); go_simp)⟩) hT (fun _ => hS) ?_
          walk_nrm
          refine anyT_takeT (i := 7) (v := .int .i64 (id : Int)) rfl (by kernel_rfl) (by kernel_rfl) (by kernel_rfl) (by kernel_rfl) (fun _ _ _ h => h) (Or.inl ⟨by rfl, fun X hSw => by (obtain ⟨q1, q2, q3, q4⟩ := hSw; go_simp)⟩) hT (fun _ => hS) ?_
          walk_nrm
          refine anyT_takeT (i := 8) (v := .pointer (some ⟨GP, 0, none⟩)) rfl (by kernel_rfl) (by kernel_rfl) (by kernel_rfl) (by kernel_rfl) (fun _ _ _ h => h) (Or.inl ⟨by rfl, fun X hSw => by ((try dsimp only at hSw); go_simp)⟩) hT (fun _ => hS) ?_
          walk_nrm
          refine anyT_takeT (i := 9) (v := .int .i64 (ia : Int)) rfl (by kernel_rfl) (by kernel_rfl) (by kernel_rfl) (by kernel_rfl) (fun _ _ _ h => h) (Or.inl ⟨by rfl, fun X hSw => by (obtain ⟨q1, q2, q3, q4⟩ := hSw; go_simp)⟩) hT (fun _ => hS) ?_
          walk_nrm
          refine anyT_takeT (i := 10) (v := .pointer (some ⟨w.heap.size, ia, none⟩)) rfl (by kernel_rfl) (by kernel_rfl) (by kernel_rfl) (by kernel_rfl) (fun _ _ _ h => h) (Or.inl ⟨by rfl, fun X hSw => by ((try dsimp only at hSw); go_simp)⟩) hT (fun _ => hS) ?_
          walk_nrm
          refine anyT_takeS (i := 11) (v := .int .u32 (ea : Int)) rfl rfl (by kernel_rfl) (by kernel_rfl) (by kernel_rfl) (by kernel_rfl) (by kernel_rfl) (fun _ _ _ h => h) (Or.inl ⟨by rfl, fun X hSw => by (obtain ⟨_, q1, q2, q3, q4⟩ := hSw; go_simp)⟩) hT hS ?_
          walk_nrm
          refine anyT_takeT (i := 12) (v := .pointer (some ⟨GP, 1, none⟩)) rfl (by kernel_rfl) (by kernel_rfl) (by kernel_rfl) (by kernel_rfl) (fun _ _ _ h => h) (Or.inl ⟨by rfl, fun X hSw => by ((try dsimp only at hSw); go_simp)⟩) hT (fun _ => hS) ?_
          walk_nrm
          refine anyT_takeT (i := 13) (v := .int .i64 (ib : Int)) rfl (by kernel_rfl) (by kernel_rfl) (by kernel_rfl) (by kernel_rfl) (fun _ _ _ h => h) (Or.inl ⟨by rfl, fun X hSw => by (obtain ⟨q1, q2, q3, q4⟩ := hSw; go_simp)⟩) hT (fun _ => hS) ?_
          walk_nrm
          refine anyT_takeT (i := 14) (v := .pointer (some ⟨w.heap.size, ib, none⟩)) rfl (by kernel_rfl) (by kernel_rfl) (by kernel_rfl) (by kernel_rfl) (fun _ _ _ h => h) (Or.inl ⟨by rfl, fun X hSw => by ((try dsimp only at hSw); go_simp)⟩) hT (fun _ => hS) ?_
          walk_nrm
          refine anyT_takeS (i := 15) (v := .int .u32 (eb : Int)) rfl rfl (by kernel_rfl) (by kernel_rfl) (by kernel_rfl) (by kernel_rfl) (by kernel_rfl) (fun _ _ _ h => h) (Or.inl ⟨by rfl, fun X hSw => by (obtain ⟨_, q1, q2, q3, q4⟩ := hSw; go_simp)⟩) hT hS ?_
          walk_nrm
          refine anyT_takeT (i := 16) (v := .pointer (some ⟨GP, 2, none⟩)) rfl (by kernel_rfl) (by kernel_rfl) (by kernel_rfl) (by kernel_rfl) (fun _ _ _ h => h) (Or.inl ⟨by rfl, fun X hSw => by ((try dsimp only at hSw); go_simp)⟩) hT (fun _ => hS) ?_
          walk_nrm
          refine anyT_takeT (i := 17) (v := .int .i64 (ic : Int)) rfl (by kernel_rfl) (by kernel_rfl) (by kernel_rfl) (by kernel_rfl) (fun _ _ _ h => h) (Or.inl ⟨by rfl, fun X hSw => by (obtain ⟨q1, q2, q3, q4⟩ := hSw; go_simp)⟩) hT (fun _ => hS) ?_
          walk_nrm
          refine anyT_takeT (i := 18) (v := .pointer (some ⟨w.heap.size, ic, none⟩)) rfl (by kernel_rfl) (by kernel_rfl) (by kernel_rfl) (by kernel_rfl) (fun _ _ _ h => h) (Or.inl ⟨by rfl, fun X hSw => by ((try dsimp only at hSw); go_simp)⟩) hT (fun _ => hS) ?_
          walk_nrm
          refine anyT_takeS (i := 19) (v := .int .u32 (ec : Int)) rfl rfl (by kernel_rfl) (by kernel_rfl) (by kernel_rfl) (by kernel_rfl) (by kernel_rfl) (fun _ _ _ h => h) (Or.inl ⟨by rfl, fun X hSw => by (obtain ⟨_, q1, q2, q3, q4⟩ := hSw; go_simp)⟩) hT hS ?_
          walk_nrm
          refine anyT_takeT (i := 20) (v := .pointer (some ⟨GP, 3, none⟩)) rfl (by kernel_rfl) (by kernel_rfl) (by kernel_rfl) (by kernel_rfl) (fun _ _ _ h => h) (Or.inl ⟨by rfl, fun X hSw => by ((try dsimp only at hSw); go_simp)⟩) hT (fun _ => hS) ?_
          walk_nrm
          refine anyT_takeT (i := 21) (v := .int .i64 (id : Int)) rfl (by kernel_rfl) (by kernel_rfl) (by kernel_rfl) (by kernel_rfl) (fun _ _ _ h => h) (Or.inl ⟨by rfl, fun X hSw => by (obtain ⟨q1, q2, q3, q4⟩ := hSw; go_simp)⟩) hT (fun _ => hS) ?_
          walk_nrm
          refine anyT_takeT (i := 22) (v := .pointer (some ⟨w.heap.size, id, none⟩)) rfl (by kernel_rfl) (by kernel_rfl) (by kernel_rfl) (by kernel_rfl) (fun _ _ _ h => h) (Or.inl ⟨by rfl, fun X hSw => by ((try dsimp only at hSw); go_simp)⟩) hT (fun _ => hS) ?_
          walk_nrm
          refine anyT_takeS (i := 23) (v := .int .u32 (ed : Int)) rfl rfl (by kernel_rfl) (by kernel_rfl) (by kernel_rfl) (by kernel_rfl) (by kernel_rfl) (fun _ _ _ h => h) (Or.inl ⟨by rfl, fun X hSw => by (obtain ⟨_, q1, q2, q3, q4⟩ := hSw; go_simp)⟩) hT hS ?_
          walk_nrm
          refine anyT_one (i := 24) (by kernel_rfl) rfl (fun K hK => ?_)
          go_simp
          refine (CQ _).mono ?_
          rintro e w9 ⟨rfl, rfl⟩
          go_wp2_with (fail)
          refine hK.out _ _ hT (fun _ => hS) ?_
          clear hK K
          refine anyT_takeT (i := 25) (v := .tuple #[.int .u32 (qa : Int), .int .u32 (qb : Int), .int .u32 (qc : Int), .int .u32 (qd : Int)]) rfl (by kernel_rfl) (by kernel_rfl) (by kernel_rfl) (by kernel_rfl) (fun _ _ _ h => h) (Or.inl ⟨by rfl, fun X hSw => by ((try dsimp only at hSw); go_simp)⟩) hT (fun _ => hS) ?_
          walk_nrm
          refine anyT_takeT (i := 26) (v := .int .u32 (qa : Int)) rfl (by kernel_rfl) (by kernel_rfl) (by kernel_rfl) (by kernel_rfl) (fun _ _ _ h => h) (Or.inl ⟨by rfl, fun X hSw => by ((try dsimp only at hSw); go_simp)⟩) hT (fun _ => hS) ?_
          walk_nrm
          refine anyT_takeT (i := 27) (v := .int .u32 (qb : Int)) rfl (by kernel_rfl) (by kernel_rfl) (by kernel_rfl) (by kernel_rfl) (fun _ _ _ h => h) (Or.inl ⟨by rfl, fun X hSw => by ((try dsimp only at hSw); go_simp)⟩) hT (fun _ => hS) ?_
          walk_nrm
          refine anyT_takeT (i := 28) (v := .int .u32 (qc : Int)) rfl (by kernel_rfl) (by kernel_rfl) (by kernel_rfl) (by kernel_rfl) (fun _ _ _ h => h) (Or.inl ⟨by rfl, fun X hSw => by ((try dsimp only at hSw); go_simp)⟩) hT (fun _ => hS) ?_
          walk_nrm
          refine anyT_takeT (i := 29) (v := .int .u32 (qd : Int)) rfl (by kernel_rfl) (by kernel_rfl) (by kernel_rfl) (by kernel_rfl) (fun _ _ _ h => h) (Or.inl ⟨by rfl, fun X hSw => by ((try dsimp only at hSw); go_simp)⟩) hT (fun _ => hS) ?_
          walk_nrm
          refine anyT_takeT (i := 30) (v := .pointer (some ⟨w.heap.size, ia, none⟩)) rfl (by kernel_rfl) (by kernel_rfl) (by kernel_rfl) (by kernel_rfl) (fun _ _ _ h => h) (Or.inl ⟨by rfl, fun X hSw => by ((try dsimp only at hSw); go_simp)⟩) hT (fun _ => hS) ?_
          walk_nrm
          have c0 := h2.cell ia p0
          have f0 := h2.frozen ia
          have st0 := h2.set ia qa
          refine anyT_one (i := 31) (by kernel_rfl) rfl (fun K hK => ?_)
          go_simp
          have hT1 := gT _ _ st0.2 hGl hT
          have hGl1 := Nat.lt_of_lt_of_le hGl st0.2.size
          refine hK.out _ _ hT1 (fun h => by cases h) ?_
          clear hK K c0 f0
          have h2_1 := st0.1
          refine anyT_takeT (i := 32) (v := .pointer (some ⟨w.heap.size, ib, none⟩)) rfl (by kernel_rfl) (by kernel_rfl) (by kernel_rfl) (by kernel_rfl) (fun _ _ _ h => h) (Or.inl ⟨by rfl, fun X hSw => by ((try dsimp only at hSw); go_simp)⟩) hT1 (fun h => by cases h) ?_
          walk_nrm
          have c1 := h2_1.cell ib p1
          have f1 := h2_1.frozen ib
          have st1 := h2_1.set ib qb
          refine anyT_one (i := 33) (by kernel_rfl) rfl (fun K hK => ?_)
          go_simp
          have hT2 := gT _ _ st1.2 hGl1 hT1
          have hGl2 := Nat.lt_of_lt_of_le hGl1 st1.2.size
          refine hK.out _ _ hT2 (fun h => by cases h) ?_
          clear hK K c1 f1
          have h2_2 := st1.1
          refine anyT_takeT (i := 34) (v := .pointer (some ⟨w.heap.size, ic, none⟩)) rfl (by kernel_rfl) (by kernel_rfl) (by kernel_rfl) (by kernel_rfl) (fun _ _ _ h => h) (Or.inl ⟨by rfl, fun X hSw => by ((try dsimp only at hSw); go_simp)⟩) hT2 (fun h => by cases h) ?_
          walk_nrm
          have c2 := h2_2.cell ic p2
          have f2 := h2_2.frozen ic
          have st2 := h2_2.set ic qc
          refine anyT_one (i := 35) (by kernel_rfl) rfl (fun K hK => ?_)
          go_simp
          have hT3 := gT _ _ st2.2 hGl2 hT2
          have hGl3 := Nat.lt_of_lt_of_le hGl2 st2.2.size
          refine hK.out _ _ hT3 (fun h => by cases h) ?_
          clear hK K c2 f2
          have h2_3 := st2.1
          refine anyT_takeT (i := 36) (v := .pointer (some ⟨w.heap.size, id, none⟩)) rfl (by kernel_rfl) (by kernel_rfl) (by kernel_rfl) (by kernel_rfl) (fun _ _ _ h => h) (Or.inl ⟨by rfl, fun X hSw => by ((try dsimp only at hSw); go_simp)⟩) hT3 (fun h => by cases h) ?_
          walk_nrm
          have c3 := h2_3.cell id p3
          have f3 := h2_3.frozen id
          have st3 := h2_3.set id qd
          refine anyT_one (i := 37) (by kernel_rfl) rfl (fun K hK => ?_)
          go_simp
          have hT4 := gT _ _ st3.2 hGl3 hT3
          have hGl4 := Nat.lt_of_lt_of_le hGl3 st3.2.size
          refine hK.out _ _ hT4 (fun h => by cases h) ?_
          clear hK K c3 f3
          have h2_4 := st3.1
          refine anyT_done (by kernel_rfl) ?_ _
          refine NoPanic.normal ?_
          rw [HE] at h2_4
          have G4 := grown_trans st0.2 (grown_trans st1.2 (grown_trans st2.2 st3.2))
          have h3' := h3.kept G4 (Nat.ne_of_gt hge)
          have bel' := belX.grown G4 belX.size (fun k hk => by cases hk; exact Nat.le_refl _)
          clear st0 st1 st2 st3 h2 h2_1 h2_2 h2_3 hT hT1 hT2 hT3 hT4 hS h3 belX G4 gT
          go_wp2_with (fail)
          go_roundw
          case rel => exact ⟨j + 1, by omega, by go_num, h2_4, h3', bel'⟩
          case measure => simp [intOf]; omega
        · have hj8 : j = 8 := by omega
          have hnj : ¬ (j : Int) < 8 := by omega
          rw [hj8, HTk.out] at h2
          clear hj8
          go_wp2_with (fail)
          go_roundw
          case rel => exact ⟨k + 1, by omega, by go_num, h2, h3, bel⟩
          case measure => simp [intOf]; omega
    · have hk10 : k = 10 := by omega
      have hnl : ¬ (k : Int) < 10 := by omega
      rw [hk10] at h2
      clear hk10
      have hLT := HL.out 10
      clear HL HT HP HX hszP
      have HD : ∀ i, i < 16 → (sumS (tenS F 10) F).getD i 0 = ((((tenS F 10).getD i 0 + F.getD i 0) % 4294967296 : Nat) : Int) := fun i hi => sumS_getD _ _ i hi
      have lD := sumS_length (tenS F 10) F
      obtain ⟨D, hD⟩ : ∃ D, D = sumS (tenS F 10) F := ⟨_, rfl⟩
      rw [← hD] at HD lD
      replace hD : Hid (D = sumS (tenS F 10) F) := hD
      obtain ⟨X, hX⟩ : ∃ X, X = tenS F 10 := ⟨_, rfl⟩
      rw [← hX] at h2 hLT HD
      clear hX
      replace HD : Hid (∀ i, i < 16 → D.getD i 0 = (((X.getD i 0 + F.getD i 0) % 4294967296 : Nat) : Int)) := HD
      obtain ⟨i0, hi, hz0, hz1, hz2⟩ := info_parts infoInt
      have hsw := bel.size
      have hl2 := h2.lt.2
      have hl3 := h3.lt.2
      go_wp2_with (at_make; refine wpList_make_full _ rfl _ _ 64 rfl w.heap.size 3 i0 (.int .i64 0) 1 Tryd.underlying64 hi hz0 hz1 _ _ _ _ 16 rfl rfl rfl rfl (by rw [hz2]; omega) (by unfold maxLen; omega) hsw ?_)
      intro w1 hown hgrow
      have bel1 : Below w.heap.size w w1 := bel.grown hgrow bel.size (fun _ h => by cases h)
      have b1 : Below wr.heap.size wr w1 := (Below.refl _ _).grown hgrow (Nat.le_refl _) (fun _ h => by cases h)
      replace h2 := h2.below b1
      replace h3 := h3.below b1
      obtain ⟨gm, hgm⟩ : ∃ gm, gm = wr.heap.size := ⟨_, rfl⟩
      rw [← hgm] at hown hl2 hl3 ⊢
      have hown0 : w1.ownsRow w.heap.size 3 1 (.slice (some ⟨gm, 0, none⟩) 16 16) 16 ((D.take 0 ++ List.replicate (16 - 0) 0).map (Value.int .i64)) := by
        rw [← fill_startI D 16]
        exact hown
      have hne2 : w.heap.size ≠ gm := Nat.ne_of_lt hl2
      have hne3 : GF ≠ gm := Nat.ne_of_lt hl3
      have HG : Hid (w.heap.size ≤ gm ∧ StrIs w1 w.heap.size w.heap.size X ∧ StrIs w1 w.heap.size GF F ∧ Below w.heap.size w w1) := ⟨Nat.le_of_lt hl2, h2, h3, bel1⟩
      clear hown hgrow hgm bel bel1 b1 hl2 hl3 hz4 h2 h3 hsw
      go_wp2_with (fail)
      go_loopw [57] (fun i wr => ∃ k : Nat, k ≤ 16 ∧ i = .int .i64 k ∧ wr.ownsRow w.heap.size 3 1 (.slice (some ⟨gm, 0, none⟩) 16 16) 16 ((D.take k ++ List.replicate (16 - k) 0).map (Value.int .i64)) ∧ w1.grownBy wr (some gm))
        (fun i _ => 16 - (intOf i).toNat)
      case atStart => exact ⟨0, by omega, rfl, hown0, World.grownBy.refl _ _⟩
      case round =>
        clear hown0
        obtain ⟨k, hk, rfl, hown, hgr⟩ := hrel
        by_cases hlt6 : k < 16
        · have hlt6' : (k : Int) < 16 := by omega
          have cs := (HG.out.2.1.kept hgr hne2).cell k hlt6
          have cf := (HG.out.2.2.1.kept hgr hne3).cell k hlt6
          have la := hLT.get k
          have lb := hS.get k
          have hTk := HD.out k hlt6
          have hfr := hown.frozenAt k
          have hold : wr.cell? ⟨gm, k, none⟩ = some (.int .i64 0) := by rw [hown.cellAt k (by omega), fill_oldI _ _ _ hlt6 lD]
          generalize X.getD k 0 = a at cs la hTk
          generalize F.getD k 0 = b at cf lb hTk
          obtain ⟨v, hv⟩ : ∃ v : Nat, v = (a + b) % 4294967296 := ⟨_, rfl⟩
          have mv : ((a : Int) + (b : Int)) % 4294967296 = (v : Int) := by omega
          have wv : IntKind.u32.wrap ((a : Int) + (b : Int)) = (v : Int) := by rw [IntKind.wrap_u32]; exact mv
          have vv : IntKind.i64.wrap (v : Int) = (v : Int) := by rw [IntKind.wrap_i64]; omega
          have st := hown.stored k (.int .i64 (v : Int))
          rw [fill_stepI D 16 k _ (by rw [hTk, hv]) hlt6 lD] at st
          have hgr' := grown_trans hgr st.2
          have st' := st.1
          clear st hv hTk hown hgr la lb
          go_wp2_with (fail)
          go_region
          all_goals
            go_wp2
            go_roundw
            case rel => exact ⟨k + 1, by omega, by go_num, st', ⟨hgr'.os, hgr'.tape, hgr'.output, hgr'.size, hgr'.block⟩⟩
            case measure => simp [intOf]; omega
        · have hnl6 : ¬ (k : Int) < 16 := by omega
          have hfin : D.take k ++ List.replicate (16 - k) 0 = D := by rw [show k = 16 by omega]; exact fill_end D 16 lD
          rw [hfin] at hown
          clear hfin
          have hin := owns_inI hown
          have bel := HG.out.2.2.2.grown hgr HG.out.2.2.2.size (fun k hk => by cases hk; exact HG.out.1)
          have CW := implWordBytes_any (some ⟨gm, 0, none⟩) 16 16 false D wr (by omega) lD hin
          clear hown hin HG hgr
          go_wp2_with (fail)
          refine CW.mono ?_
          rintro e w9 ⟨p9, c9, rfl, r9, b9⟩
          rw [hD.out] at r9
          go_wp2_with (fail)
          go_ret
          exact ⟨_, _, rfl, ⟨owns_mono r9.1 bel.size, r9.2⟩, below_on bel b9⟩
theorem byteGet {xs : List Int} (hb : ∀ x ∈ xs, 0 ≤ x ∧ x < 256) (i : Nat) : (xs.getD i 0).toNat < 256 := by
  rw [List.getD_eq_getElem?_getD]
  cases hk : xs[i]? with
  | none => decide
  | some x => have := hb x (List.mem_of_getElem? hk); simp only [Option.getD_some]; omega
theorem four_low {a b c d : Nat} (ha : a < 256) (hb : b < 256) (hc : c < 256) (hd : d < 256) : four a b c d < 4294967296 := by
  unfold four
  omega
theorem wordsL_low {xs : List Int} (hb : ∀ x ∈ xs, 0 ≤ x ∧ x < 256) (k : Nat) : ∀ x ∈ wordsL false xs k, 0 ≤ x ∧ x < 4294967296 := by
  intro x hx
  simp only [wordsL, List.mem_map] at hx
  obtain ⟨i, _, rfl⟩ := hx
  have := four_low (byteGet hb (4 * i + 3)) (byteGet hb (4 * i + 2)) (byteGet hb (4 * i + 1)) (byteGet hb (4 * i + 0))
  simp only [wordAt, Bool.false_eq_true, if_false]
  omega
theorem places_below {w w' : World} (h : PlacesIs w) (hb : Below w.heap.size w w') : PlacesIs w' := by
  have hgp : 0 < w.heap.size := World.block_lt_of_cell? w ⟨0, 0 + 0, none⟩ (h 0 _ rfl)
  exact fun j v hv => (hb.cell (p := ⟨0, 0 + j, none⟩) hgp).trans (h j v hv)
set_option maxHeartbeats 4000000 in
theorem implBlk_no (p q : Option Addr) (n m c d : Nat) (count : Int) (T : List Nat) (ok : Bool) (w : World) (hT : T.length = 16) (hno : ok = false ∨ count < 0 ∨ 4294967295 < count)
    (CN : Calls Tryd.prog 44 #[.slice p n c, .slice q m d] w fun e w' => e = .returned (.tuple #[.agg (strL T).toArray, .bool ok]) ∧ Below w.heap.size w w') :
    Calls Tryd.prog 48 #[.slice p n c, .int .i64 count, .slice q m d] w fun e w' => e = .returned (.slice none 0 0) ∧ Below w.heap.size w w' := by
  have hz := (zero_of_info infoStr).1
  have hsz0 := (zero_of_info infoStr).2
  have hsC : (strL T).toArray.size = 16 := by simp [strL_length, hT]
  have hone : ∀ v ∈ strL T, v.oneCell' = true := strL_one _
  have hsz2 : (Tryd.prog.info? 53).map (·.size) = some (strL T).toArray.size := by rw [hsC]; exact hsz0
  have HM : Hid (∀ X : World, (X.alloc (.cells (strL zero16).toArray 53)).there X.heap.size 0 (strL T).toArray.size ∧ Below X.heap.size X ((X.alloc (.cells (strL zero16).toArray 53)).setCells X.heap.size 0 (strL T))) := fun X => by
    have m1 := StrIs.made X X.heap.size zero16 rfl (Nat.le_refl _)
    rw [hsC]
    have bb : Below X.heap.size X (X.alloc (.cells (strL zero16).toArray 53)) := (Below.refl _ _).alloc (Nat.le_refl _) _
    exact ⟨m1.there, bb.grown (m1.put hT).2 bb.size (fun k hk => by cases hk; exact Nat.le_refl _)⟩
  obtain ⟨Z, hZ⟩ : ∃ Z, Z = (strL zero16).toArray := ⟨_, rfl⟩
  rw [← hZ] at hz
  simp only [← hZ] at HM
  clear hZ
  obtain ⟨Cs, hCs⟩ : ∃ Cs, Cs = strL T := ⟨_, rfl⟩
  rw [← hCs] at hsz2 hone CN
  simp only [← hCs] at HM
  clear hCs hsC hT
  go_enter Tryd.func48, Tryd.ntmps48
  go_wp2_with (fail)
  refine CN.mono ?_
  rintro e w1 ⟨rfl, b1⟩
  have hth := (HM.out w1).1
  have hbb := (HM.out w1).2
  clear HM CN
  rcases hno with rfl | h | h
  · go_wp2_with (refine wpList_store_mid rfl 53 _ _ rfl w1.heap.size 0 Cs.toArray rfl rfl hth hsz2 (all_oneCell_toArray hone) ?_)
    go_ret
    exact ⟨rfl, below_on b1 hbb⟩
  · cases ok <;> (go_wp2_with (refine wpList_store_mid rfl 53 _ _ rfl w1.heap.size 0 Cs.toArray rfl rfl hth hsz2 (all_oneCell_toArray hone) ?_); go_ret; exact ⟨rfl, below_on b1 hbb⟩)
  · have h' : ¬ count < 0 := by omega
    cases ok <;> (go_wp2_with (refine wpList_store_mid rfl 53 _ _ rfl w1.heap.size 0 Cs.toArray rfl rfl hth hsz2 (all_oneCell_toArray hone) ?_); go_ret; exact ⟨rfl, below_on b1 hbb⟩)
set_option maxHeartbeats 4000000 in
theorem implBlk_yes (p q : Option Addr) (c d : Nat) (count : Int) (ks ns : List Int) (w : World) (hc : 32 ≤ c) (hd : 12 ≤ d) (hx : ks.length = 32) (hy : ns.length = 12) (h : BytesIn w p 32 ks) (h' : BytesIn w q 12 ns) (hb1 : ∀ x ∈ ks, 0 ≤ x ∧ x < 256) (hb2 : ∀ x ∈ ns, 0 ≤ x ∧ x < 256) (hP : PlacesIs w) (h0 : 0 ≤ count) (h1 : count ≤ 4294967295) :
    Calls Tryd.prog 48 #[.slice p 32 c, .int .i64 count, .slice q 12 d] w fun e w' => ∃ p' c', e = .returned (.slice p' 64 c') ∧ Own 5 w' w.heap.size w'.heap.size (.slice p' 64 c') 64 (blkB ks count ns) ∧ Below w.heap.size w w' := by
  have CN := newStream_yes p q c d ks ns w hc hd hx hy h h' hb1 hb2
  have hT := firstN_length ks 0 ns
  have eF := firstN_set ks ns count
  obtain ⟨e1, e2⟩ := firstL_cast ks ns count ⟨h0, h1⟩ (wordsL_low hb1 8) (wordsL_low hb2 3)
  have HB : Hid (blkB ks count ns = bytesL false (sumS (tenS (firstN ks count ns) 10) (firstN ks count ns))) := blkB_cast e2 (firstN_length _ _ _) e1
  clear e1
  generalize firstN ks 0 ns = T at CN hT eF
  generalize firstN ks count ns = F at eF e2 HB
  have n0 : ¬ count < 0 := by omega
  have n1 : ¬ 4294967295 < count := by omega
  have hz := (zero_of_info infoStr).1
  have hsz0 := (zero_of_info infoStr).2
  have hsC : (strL T).toArray.size = 16 := by simp [strL_length, hT]
  have hone : ∀ v ∈ strL T, v.oneCell' = true := strL_one _
  have hsz : (Tryd.prog.info? 53).map (·.size) = some (strL T).length := by rw [strL_length, hT]; exact hsz0
  have hsz2 : (Tryd.prog.info? 53).map (·.size) = some (strL T).toArray.size := by rw [hsC]; exact hsz0
  have HM : Hid (∀ X : World, (X.alloc (.cells (strL zero16).toArray 53)).there X.heap.size 0 (strL T).toArray.size ∧ Below X.heap.size X ((X.alloc (.cells (strL zero16).toArray 53)).setCells X.heap.size 0 (strL T)) ∧ ((X.alloc (.cells (strL zero16).toArray 53)).setCells X.heap.size 0 (strL T)).rangeAt X.heap.size 0 (strL T)) := fun X => by
    have m1 := StrIs.made X X.heap.size zero16 rfl (Nat.le_refl _)
    rw [hsC]
    have bb : Below X.heap.size X (X.alloc (.cells (strL zero16).toArray 53)) := (Below.refl _ _).alloc (Nat.le_refl _) _
    exact ⟨m1.there, bb.grown (m1.put hT).2 bb.size (fun k hk => by cases hk; exact Nat.le_refl _), (m1.put hT).1.range⟩
  have CB := fun X hX => block_any T F count X hT eF.symm e2 hX
  obtain ⟨Z, hZ⟩ : ∃ Z, Z = (strL zero16).toArray := ⟨_, rfl⟩
  rw [← hZ] at hz
  simp only [← hZ] at HM
  clear hZ
  obtain ⟨Cs, hCs⟩ : ∃ Cs, Cs = strL T := ⟨_, rfl⟩
  rw [← hCs] at hsz hsz2 hone CN
  simp only [← hCs] at HM CB
  clear hCs hsC hT eF e2
  obtain ⟨Bs, hBs⟩ : ∃ Bs, Bs = bytesL false (sumS (tenS F 10) F) := ⟨_, rfl⟩
  simp only [← hBs] at CB HB
  rw [HB.out]
  clear hBs HB
  go_enter Tryd.func48, Tryd.ntmps48
  go_wp2_with (fail)
  refine CN.mono ?_
  rintro e w1 ⟨rfl, b1⟩
  obtain ⟨hth, hbb, hra⟩ := HM.out w1
  have bel := below_on b1 hbb
  have CB' := CB _ (places_below hP bel)
  clear HM CN CB
  replace CB' : Hid (Calls Tryd.prog _ _ _ _) := CB'
  go_wp2_with (first | (refine wpList_store_mid rfl 53 _ _ rfl w1.heap.size 0 Cs.toArray rfl rfl hth hsz2 (all_oneCell_toArray hone) ?_) | (refine wpList_load_mid rfl 53 _ rfl w1.heap.size 0 rfl Cs _ hra Tryd.underlying53 rfl hsz ?_))
  refine CB'.out.mono ?_
  rintro e w2 ⟨p2, c2, rfl, r2, b2⟩
  go_wp2_with (fail)
  go_ret
  exact ⟨_, _, rfl, ⟨owns_mono r2.1 bel.size, r2.2⟩, below_on bel b2⟩
theorem implBlk_any (p q : Option Addr) (n m c d : Nat) (count : Int) (ks ns : List Int) (w : World) (hx : ks.length = n) (hy : ns.length = m) (h : BytesIn w p n ks) (h' : BytesIn w q m ns) (hb1 : ∀ x ∈ ks, 0 ≤ x ∧ x < 256) (hb2 : ∀ x ∈ ns, 0 ≤ x ∧ x < 256) (hc : n ≤ c) (hd : m ≤ d) (hP : PlacesIs w) :
    Calls Tryd.prog 48 #[.slice p n c, .int .i64 count, .slice q m d] w fun e w' => ∃ p' c', e = .returned (.slice p' (blkN n m count) c') ∧ Own 5 w' w.heap.size w'.heap.size (.slice p' (blkN n m count) c') (blkN n m count) (blkL ks count ns) ∧ Below w.heap.size w w' := by
  unfold blkN blkL
  rw [hx, hy]
  by_cases hok : blkOk n m count
  · rw [if_pos hok, if_pos hok]
    obtain ⟨rfl, rfl, h0, h1⟩ := hok
    exact implBlk_yes p q c d count ks ns w hc hd hx hy h h' hb1 hb2 hP h0 h1
  · rw [if_neg hok, if_neg hok]
    have key : Calls Tryd.prog 48 #[.slice p n c, .int .i64 count, .slice q m d] w fun e w' => e = .returned (.slice none 0 0) ∧ Below w.heap.size w w' := by
      by_cases hs : n = 32 ∧ m = 12
      · obtain ⟨rfl, rfl⟩ := hs
        refine implBlk_no p q 32 12 c d count (firstN ks 0 ns) true w (firstN_length _ _ _) (.inr ?_) (newStream_yes p q c d ks ns w hc hd hx hy h h' hb1 hb2)
        unfold blkOk at hok
        omega
      · exact implBlk_no p q n m c d count zero16 false w rfl (.inl rfl) (newStream_no p q n m c d w hs)
    refine key.mono ?_
    rintro e w' ⟨rfl, b⟩
    exact ⟨none, 0, rfl, .of ⟨rfl, .inl ⟨rfl, rfl⟩⟩, b⟩
end Go.Proofs.YthjapmdikbmmkaaDoor
namespace Go.Proofs.YthjapmdikbmmkaaDoor
open Go Go.Conc Go.RowKit
set_option maxRecDepth 100000
theorem block_is (ks ns : List Int) (ct : Int) (m : Nat) (C : Array Value) (e : TypeId) (hb1 : ∀ x ∈ ks, 0 ≤ x ∧ x < 256) (hb2 : ∀ x ∈ ns, 0 ≤ x ∧ x < 256) (hC : ∀ (j : Nat) v, placesC[j]? = some v → C[j]? = some v) (h0 : 0 ≤ ct) (h1 : ct + (m : Int) ≤ 4294967296) :
    BlockIs (strL (firstN ks 0 ns)).toArray ct m C e (fun i j => (blkB ks (ct + (i : Int)) ns).getD j 0) := by
  intro i hi wg hsz htab
  have eF := firstN_set ks ns (ct + (i : Int))
  obtain ⟨e1, e2⟩ := firstL_cast ks ns (ct + (i : Int)) ⟨by omega, by omega⟩ (wordsL_low hb1 8) (wordsL_low hb2 3)
  have HB : blkB ks (ct + (i : Int)) ns = bytesL false (sumS (tenS (firstN ks (ct + (i : Int)) ns) 10) (firstN ks (ct + (i : Int)) ns)) := blkB_cast e2 (firstN_length _ _ _) e1
  have hP : PlacesIs wg := fun j v hv => by
    simp only [World.cell?, htab, Option.isSome_none, Bool.false_eq_true, if_false, Nat.zero_add]
    exact hC j v hv
  refine (block_any (firstN ks 0 ns) (firstN ks (ct + (i : Int)) ns) (ct + (i : Int)) wg (firstN_length _ _ _) eF e2 hP).mono fun ex w1 ⟨p', c', h2, h3, h4⟩ => ⟨_, h2, ?_, ?_⟩
  · rw [← HB] at h3
    rcases h3.1.2 with ⟨_, hn⟩ | ⟨g, cap, cur, hv, hg, _⟩
    · omega
    · cases hv
      refine ⟨g, hg, 0, c', rfl, fun j hj => ?_⟩
      have hl := h3.len
      show _ = some (Value.int .u8 ((blkB ks (ct + (i : Int)) ns).getD j 0))
      rw [Nat.zero_add, h3.1.cellAt j (by omega), List.getElem?_map, List.getElem?_eq_getElem (by omega), Option.map_some, List.getD_eq_getElem?_getD, List.getElem?_eq_getElem (by omega), Option.getD_some]
  · exact (h4.block _ (Nat.lt_of_lt_of_le tableK hsz)).trans htab
/-! ### newStream -/
def alN (f : Nat) : Bool := [44, 57, 77, 56, 76, 84].contains f
theorem tameN : TameP Tryd.prog glX alN := by
  refine ⟨fun f hf => ?_, fun _ _ => rfl⟩
  simp only [alN, List.contains_cons, List.contains_nil, Bool.or_false, Bool.or_eq_true, beq_iff_eq] at hf
  rcases hf with rfl | rfl | rfl | rfl | rfl | rfl
  · exact tame_one Tryd.func44 (by kernel_rfl) (by kernel_rfl)
  · exact tame_one Tryd.func57 (by kernel_rfl) (by kernel_rfl)
  · exact tame_one Tryd.func77 (by kernel_rfl) (by kernel_rfl)
  · exact tame_one Tryd.func56 (by kernel_rfl) (by kernel_rfl)
  · exact tame_one Tryd.func76 (by kernel_rfl) (by kernel_rfl)
  · exact tame_one Tryd.func84 (by kernel_rfl) (by kernel_rfl)
noncomputable def renP (al : Nat → Bool) (b1 o1 b2 o2 : Nat) : Ren := ⟨fun b b' => (b = Tryd.prog.globals.size ∧ b' = b1) ∨ (b = Tryd.prog.globals.size + 1 ∧ b' = b2), Tryd.prog.globals.size, fun f => al f = true, fun b => if b = Tryd.prog.globals.size then o1 + 1 else if b = Tryd.prog.globals.size + 1 then o2 + 1 else 0, fun b hb => by rw [if_neg (by omega), if_neg (by omega)], 115, fun f n => glX.d f n = true⟩
theorem sit_P (al : Nat → Bool) {w : World} {b1 o1 b2 o2 : Nat} {xs ys : List Int} (hx0 : 0 < xs.length) (hy0 : 0 < ys.length) (hx : ∀ j u, xs[j]? = some u → w.cell? ⟨b1, o1 + j, none⟩ = some (.int .u8 u)) (hy : ∀ j u, ys[j]? = some u → w.cell? ⟨b2, o2 + j, none⟩ = some (.int .u8 u)) :
    Sit 0 Tryd.prog glX al ShX (renP al b1 o1 b2 o2) (ghostX w o1 xs o2 ys) w := by
  refine ⟨⟨fun b b' hb => ?_, fun b b' c' h1 h2 => ?_, fun b c b' h1 h2 => .inr ⟨h1.imp And.left And.left, h2.imp And.left And.left⟩, fun b hb => ?_, fun i q h => absurd h (Nat.not_lt_zero _), fun b b' hs hb => ?_⟩, fun b hb => ?_, ⟨rfl, bogS⟩, rfl, rfl, fun g hg => (by cases hg), by rw [ghostX_size]; omega⟩
  · rcases hb with ⟨rfl, rfl⟩ | ⟨rfl, rfl⟩
    · obtain ⟨o', h1, h2⟩ := relO_part (ρ := renP al b' o1 b2 o2) hx0 hx
      refine ⟨_, _, ghostX_one .., h1, ?_⟩
      have e : (renP al b' o1 b2 o2).lo Tryd.prog.globals.size = o1 + 1 := by simp only [renP, if_true]
      rw [e]
      exact h2
    · obtain ⟨o', h1, h2⟩ := relO_part (ρ := renP al b1 o1 b' o2) hy0 hy
      refine ⟨_, _, ghostX_two .., h1, ?_⟩
      have e : (renP al b1 o1 b' o2).lo (Tryd.prog.globals.size + 1) = o2 + 1 := by
        unfold renP
        dsimp only
        rw [if_neg (by omega), if_pos rfl]
      rw [e]
      exact h2
  · rcases h1 with ⟨h, rfl⟩ | ⟨h, rfl⟩ <;> rcases h2 with ⟨k, rfl⟩ | ⟨k, rfl⟩ <;> first | rfl | omega
  · rw [ghostX_size] at hb
    exact (if_neg (by omega)).trans (if_neg (by omega))
  · rcases hs with rfl | rfl
    · exact ⟨_, _, _, ghostX_one .., Nat.le_refl _⟩
    · exact ⟨_, _, _, ghostX_two .., Nat.le_refl _⟩
  · rw [ghostX_size]
    rcases hb with rfl | rfl <;> omega
theorem renP_lo1 (al : Nat → Bool) (b1 o1 b2 o2 : Nat) : (renP al b1 o1 b2 o2).lo Tryd.prog.globals.size = o1 + 1 := by simp only [renP, if_true]
theorem renP_lo2 (al : Nat → Bool) (b1 o1 b2 o2 : Nat) : (renP al b1 o1 b2 o2).lo (Tryd.prog.globals.size + 1) = o2 + 1 := by
  unfold renP
  dsimp only
  rw [if_neg (by omega), if_pos rfl]
theorem pair_same {ρ : Ren} {X : Array Value} {ok : Bool} {v' : Value} (h : RelV ρ (.tuple #[.agg X, .bool ok]) v') (hX : ∀ v ∈ X, flatC v = true) : v' = .tuple #[.agg X, .bool ok] := by
  cases h with
  | @tuple x x' hs hr =>
    have hs' : x'.size = 2 := hs.symm
    have h0 := hr 0 (.agg X) x'[0] rfl (Array.getElem?_eq_getElem (by omega))
    have h1 := hr 1 (.bool ok) x'[1] rfl (Array.getElem?_eq_getElem (by omega))
    have e0 : x'[0] = .agg X := by
      generalize x'[0] = y at h0
      cases h0 with
      | agg hs hr => rw [row_same ⟨hs, hr⟩ hX]
    have e1 : x'[1] = .bool ok := by
      generalize x'[1] = y at h1
      cases h1
      rfl
    congr 1
    apply Array.ext
    · exact hs'
    · intro i h1 h2
      match i, h2 with
      | 0, _ => exact e0
      | 1, _ => exact e1
section
variable {Sh : Nat → Prop} {Stop : (Nat → Prop) → Goroutine → World → Prop} {M : Nat → Prop} {w : World}
theorem strL_flat (S : List Nat) : ∀ v ∈ (strL S).toArray, flatC v = true := fun v hv => by
  simp only [List.mem_toArray, strL, List.mem_map] at hv
  obtain ⟨n, _, rfl⟩ := hv
  rfl
theorem newStream_co (b1 o1 c1 b2 o2 c2 : Nat) (xs ys : List Int) (c : Frame) (cs : List Frame) (hx0 : xs.length = 32) (hy0 : ys.length = 12) (hc1 : 32 ≤ c1) (hc2 : 12 ≤ c2) (hbx : ∀ x ∈ xs, 0 ≤ x ∧ x < 256) (hby : ∀ x ∈ ys, 0 ≤ x ∧ x < 256) (hx : ∀ j u, xs[j]? = some u → w.cell? ⟨b1, o1 + j, none⟩ = some (.int .u8 u)) (hy : ∀ j u, ys[j]? = some u → w.cell? ⟨b2, o2 + j, none⟩ = some (.int .u8 u))
    (hM1 : M b1) (hM2 : M b2) (hM : ∀ b, M b → b < w.heap.size) (hSw : ∀ b, Sh b → b < w.heap.size)
    (next : ∀ w1 M', Keeps M w w1 → (∀ b, M b → M' b) → (∀ b, M' b → M b ∨ w.heap.size ≤ b) → (∀ b, M' b → b < w1.heap.size) → Co Tryd.prog true Sh Stop M' (G (c.finish (.tuple #[.agg (strL (firstN xs 0 ys)).toArray, .bool true])) cs) w1) :
    Co Tryd.prog true Sh Stop M (G (Frame.enter Tryd.prog 44 #[.slice (some ⟨b1, o1, none⟩) 32 c1, .slice (some ⟨b2, o2, none⟩) 12 c2] .normal) (c :: cs)) w := by
  refine co_call_on (Gl := glX) (Al := alN) (Sh := ShX) (ρ := renP alN b1 o1 b2 o2) (R := fun b => M b ∧ b ≠ b1 ∧ b ≠ b2) (args := #[.slice (some ⟨Tryd.prog.globals.size, o1, none⟩) 32 c1, .slice (some ⟨Tryd.prog.globals.size + 1, o2, none⟩) 12 c2]) (wg := ghostX w o1 xs o2 ys)
    (Post := fun v _ => v = .tuple #[.agg (strL (firstN xs 0 ys)).toArray, .bool true])
    tameN (fun b b' hb _ => hb.imp And.left And.left) hSw (by rfl) (fun τ => ?_) (sit_P alN (by omega) (by omega) hx hy) ?_ (fun b => ?_) (fun b hb => ⟨hM b hb.1, fun ⟨c, hc⟩ => ?_⟩) fun ρ1 v v' w1g w1 M' hv hP hrel hle hnew hM' hkR hst => ?_
  · have h1 : (World.ret (ghostX w o1 xs o2 ys) τ).heap[Tryd.prog.globals.size]? = _ := ghostX_one w o1 xs o2 ys
    have h2 : (World.ret (ghostX w o1 xs o2 ys) τ).heap[Tryd.prog.globals.size + 1]? = _ := ghostX_two w o1 xs o2 ys
    exact (newStream_yes _ _ c1 c2 xs ys (World.ret (ghostX w o1 xs o2 ys) τ) hc1 hc2 hx0 hy0 (fun _ => ⟨_, _, rfl, fun i hi => part_cell h1 i (by omega)⟩) (fun _ => ⟨_, _, rfl, fun i hi => part_cell h2 i (by omega)⟩) hbx hby).mono fun e w' ⟨e1, _⟩ => ⟨_, e1, rfl⟩
  · refine ⟨rfl, fun j x x' h1 h2 => ?_⟩
    match j with
    | 0 =>
      cases h1
      cases h2
      exact .slice _ _ ⟨.inl ⟨rfl, rfl⟩, rfl, rfl, fun h => absurd h (Nat.lt_irrefl _), by rw [renP_lo1]; exact Nat.le_refl _⟩
    | 1 =>
      cases h1
      cases h2
      exact .slice _ _ ⟨.inr ⟨rfl, rfl⟩, rfl, rfl, fun h => absurd h (Nat.not_lt.2 (Nat.le_succ _)), by rw [renP_lo2]; exact Nat.le_refl _⟩
    | j + 2 => cases h1
  · constructor
    · intro hb
      by_cases e1 : b = b1
      · exact .inl ⟨_, .inl ⟨rfl, e1⟩⟩
      · by_cases e2 : b = b2
        · exact .inl ⟨_, .inr ⟨rfl, e2⟩⟩
        · exact .inr ⟨hb, e1, e2⟩
    · rintro (⟨_, ⟨_, rfl⟩ | ⟨_, rfl⟩⟩ | hb)
      · exact hM1
      · exact hM2
      · exact hb.1
  · rcases hc with ⟨_, h⟩ | ⟨_, h⟩
    · exact hb.2.1 h
    · exact hb.2.2 h
  · subst hP
    rw [pair_same hv (strL_flat _)]
    have hb1 : w1.heap[b1]? = w.heap[b1]? := hst _ _ (.inl rfl) (.inl ⟨rfl, rfl⟩)
    have hb2 : w1.heap[b2]? = w.heap[b2]? := hst _ _ (.inr rfl) (.inr ⟨rfl, rfl⟩)
    refine next w1 M' ⟨fun b hb => ?_, hkR.size, hkR.os, hkR.output, hkR.tape⟩ (fun b hb => (hM' b).2 ?_) (fun b hb => ?_) fun b hb => ?_
    · by_cases e1 : b = b1
      · exact e1 ▸ hb1
      · by_cases e2 : b = b2
        · exact e2 ▸ hb2
        · exact hkR.heap b ⟨hb, e1, e2⟩
    · by_cases e1 : b = b1
      · exact .inl ⟨_, hle.app (.inl ⟨rfl, e1⟩)⟩
      · by_cases e2 : b = b2
        · exact .inl ⟨_, hle.app (.inr ⟨rfl, e2⟩)⟩
        · exact .inr ⟨hb, e1, e2⟩
    · rcases (hM' b).1 hb with ⟨d, hd⟩ | hb
      · rcases hnew d b hd with (⟨_, rfl⟩ | ⟨_, rfl⟩) | x
        · exact .inl hM1
        · exact .inl hM2
        · exact .inr x.2
      · exact .inl hb.1
    · rcases (hM' b).1 hb with ⟨d, hd⟩ | hb
      · exact (hrel.lt hd).2
      · exact Nat.lt_of_lt_of_le (hM b hb.1) hkR.size
end
end Go.Proofs.YthjapmdikbmmkaaDoor
