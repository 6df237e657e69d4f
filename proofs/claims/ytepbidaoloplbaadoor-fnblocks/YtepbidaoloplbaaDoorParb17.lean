/-
  What the specification's Block answers, whatever bytes and count it is given: 64 bytes, or nothing. Condition: bytes all.
  FnExactXor: what spec.Xor and impl.Xor answer, and the law's road; no condition beyond at most 1048576 bytes.
  FnExactXor: what spec.Xor and impl.Xor answer, and the law's road; no condition beyond at most 1048576 bytes.
  What the specification's Stream answers: the bytes of the text, one or the other, not both, with the bytes of the blocks one behind the other; or nothing. Condition: bytes all.
-/
import Derived.Test.YtepbidaoloplbaaDoorParb16
import Derived.Test.YtepbidaoloplbaaDoorParb11
import Derived.Test.YtepbidaoloplbaaDoorParb12
import Derived.Test.YtepbidaoloplbaaDoorParb15
import Derived.Test.YtepbidaoloplbaaDoorParb14
import Derived.Test.YtepbidaoloplbaaDoorParb08
import Derived.Deep.AppendLies
import Derived.Deep.RegionLaw
namespace Go.Proofs.YtepbidaoloplbaaDoor.Alt
open Go.RowKit
set_option maxRecDepth 100000

set_option maxRecDepth 100000 in
set_option maxHeartbeats 1000000 in
theorem specBlk_yes (p q : Option Addr) (c d : Nat) (ks ns : List Int) (count : Int) (w : World) (hx : ks.length = 32) (hy : ns.length = 12) (h : BytesIn w p 32 ks) (h' : BytesIn w q 12 ns) (hb1 : ∀ x ∈ ks, 0 ≤ x ∧ x < 256) (hb2 : ∀ x ∈ ns, 0 ≤ x ∧ x < 256) (hc : 0 ≤ count ∧ count ≤ 4294967295) :
    Calls Altd.prog 13 #[.slice p 32 c, .int .i64 count, .slice q 12 d] w fun e w' => ∃ p' c', e = .returned (.slice p' 64 c') ∧ Own 5 w' w.heap.size w'.heap.size (.slice p' 64 c') 64 (blkB ks count ns) ∧ Below w.heap.size w w' := by
  obtain ⟨i0, hi, hz0, hz1, hz2⟩ := info_parts infoInt
  have CI : ∀ X, Calls Altd.prog 35 #[.int .i64 count, .int .i64 0, .int .i64 4294967295] X fun e w' => e = .returned (.bool true) ∧ w' = X := fun X => by
    have := l1In_is count 0 4294967295 X
    rw [decide_eq_true hc] at this
    exact this
  have C1 := fun X hX => specWords_any p 32 c false ks X (by omega) hx hX hb1
  have C2 := fun X hX => specWords_any q 12 d false ns X (by omega) hy hX hb2
  have l1 : (wordsL false ks (32 / 4)).length = 8 := by simp [wordsL]
  have l2 : (wordsL false ns (12 / 4)).length = 3 := by simp [wordsL]
  have HF : Hid ([1634760805, 857760878, 2036477234, 1797285236] ++ wordsL false ks (32 / 4) ++ [count] ++ wordsL false ns (12 / 4) = firstL ks count ns) := rfl
  have HB : Hid (bytesL false (sumsL (tenL (firstL ks count ns) 10) (firstL ks count ns) 16) = blkB ks count ns) := rfl
  have lF := firstL_length ks count ns
  simp only [Nat.reduceDiv] at C1 C2 l1 l2 HF
  generalize firstL ks count ns = F at HF HB lF
  generalize wordsL false ks 8 = W1 at C1 l1 HF
  generalize wordsL false ns 3 = W2 at C2 l2 HF
  have hown0 : (w.alloc (.cells #[.int .i64 1634760805, .int .i64 857760878, .int .i64 2036477234, .int .i64 1797285236] 3)).ownsRow w.heap.size 3 1 (.slice (some ⟨w.heap.size, 0, none⟩) 4 4) 4 (([1634760805, 857760878, 2036477234, 1797285236] : List Int).map (Value.int .i64)) :=
    ⟨rfl, .inr ⟨w.heap.size, 4, _, rfl, Nat.le_refl _, heap_alloc_new w _, Nat.le_refl _, by unfold maxLen; omega, rfl, rfl⟩⟩
  have hb0 : Below w.heap.size w (w.alloc (.cells #[.int .i64 1634760805, .int .i64 857760878, .int .i64 2036477234, .int .i64 1797285236] 3)) := (Below.refl _ _).alloc (Nat.le_refl _) _
  generalize hCC : ([1634760805, 857760878, 2036477234, 1797285236] : List Int) = CC at hown0 HF
  clear hCC
  go_enter Altd.func13, Altd.ntmps13
  go_wp2_with (fail)
  refine (CI _).mono ?_
  rintro e w1 ⟨rfl, hw1⟩
  obtain rfl := hw1.symm
  clear CI
  go_wp2_with (fail)
  generalize w.alloc (.cells #[.int .i64 1634760805, .int .i64 857760878, .int .i64 2036477234, .int .i64 1797285236] 3) = wa at hown0 hb0 ⊢
  refine (C1 _ (in_below h hb0)).mono ?_
  rintro e wb ⟨p2, c2, rfl, r2, b2⟩
  have ho := owns_below hown0 b2
  have hin := r2.ints
  have bel := below_on hb0 b2
  have hs := bel.size
  clear C1 hown0 hb0 r2 b2
  go_wp2_with (first | (at_builtin; refine list_spreadI hi hz0 hz1 hz2 (.tmp 26) (.tmp 28) 32 Altd.underlying32 ho hin l1 (by omega) (by omega) (by omega) hs (by rfl) (by rfl) (by rfl) (by rfl) ?_; intro g3 cap3 w3 ho3 hb3; have bel3 := bel.trans hb3; have hs3 := bel3.size) | (at_builtin; refine list_pushI hi hz0 hz1 hz2 (.tmp 30) (.tmp 32) 32 Altd.underlying32 _ ho3 (by omega) hs3 (by rfl) (by rfl) (by rfl) (by rfl) ?_; intro g4 cap4 w4 ho4 hb4; have bel4 := bel3.trans hb4))
  refine (C2 _ (in_below h' bel4)).mono ?_
  rintro e w5 ⟨p5, c5, rfl, r5, b5⟩
  have ho5 := owns_below ho4 b5
  have hin5 := r5.ints
  have bel5 := below_on bel4 b5
  have hs5 := bel5.size
  clear C2 ho4 r5 b5 ho3 hb3 hb4 bel3 bel4 ho hin bel
  go_wp2_with (first | (at_builtin; refine list_spreadI hi hz0 hz1 hz2 (.tmp 34) (.tmp 36) 32 Altd.underlying32 ho5 hin5 l2 (by omega) (by omega) (by omega) hs5 (by rfl) (by rfl) (by rfl) (by rfl) ?_; intro gf cf w6 ho6 hb6; rw [HF.out] at ho6; have bel6 := bel5.trans hb6; have hF := owns_inI ho6; have hx0 : (w6.alloc (.cells #[] 3)).ownsRow w6.heap.size 3 1 (.slice (some ⟨w6.heap.size, 0, none⟩) 0 0) 0 (([] : List Int).map (Value.int .i64)) := World.ownsRow_made w6 #[] 0 (Nat.le_refl _) (by unfold maxLen; omega) rfl; have bx0 : Below w6.heap.size w6 (w6.alloc (.cells #[] 3)) := (Below.refl _ _).alloc (Nat.le_refl _) _; have hF0 := in_belowI hF bx0) | (at_builtin; refine list_spreadI hi hz0 hz1 hz2 (.tmp 38) (.tmp 39) 32 Altd.underlying32 hx0 hF0 lF (by omega) (by omega) (by omega) (by simp) (by rfl) (by rfl) (by rfl) (by rfl) ?_; intro gx cx w7 ho7 hb7; simp only [Nat.zero_add, List.nil_append] at ho7 ⊢))
  have hgf : gf < w6.heap.size := (ho6.lt gf rfl).2
  have b67 : Below w6.heap.size w6 w7 := bx0.trans hb7
  have bel7 := below_on bel6 b67
  have hF7 := in_belowI hF b67
  have hsw := bel6.size
  clear ho6 ho5 hin5 hF hx0 bx0 hF0 hb7 hb6 bel5
  have HT : Hid (∀ k, (tenL F k).length = 16) := fun k => by rw [tenL_length]; exact lF
  have HT0 : Hid (∀ k, doubleL (tenL F k) = tenL F (k + 1)) := fun _ => rfl
  go_loopw [8, 9] (fun v i wr => ∃ (k : Nat) (q : Option Addr) (cc : Nat), k ≤ 10 ∧ i = .int .i64 k ∧ v = .slice q 16 cc ∧ wr.ownsRow w6.heap.size 3 1 (.slice q 16 cc) 16 ((tenL F k).map (Value.int .i64)) ∧ IntsIn wr (some ⟨gf, 0, none⟩) 16 F ∧ Below w.heap.size w wr)
    (fun _ i _ => 10 - (intOf i).toNat)
  case atStart => exact ⟨0, _, cx, by omega, rfl, rfl, ho7, hF7, bel7⟩
  case round =>
    clear ho7 hF7 bel7
    obtain ⟨k, q, cc, hk, rfl, rfl, hX, hF, hb⟩ := hrel
    have hw6 : w6.heap.size ≤ wr.heap.size := Nat.le_trans (Nat.le_of_lt_succ (Nat.lt_succ_of_lt ((owns_at hX (by decide)).elim fun g e => by subst e; have := hX.lt g rfl; omega))) (Nat.le_refl _)
    by_cases hlt : k < 10
    · have CQ := l5Double_any q cc (tenL F k) wr (HT.out k) (owns_inI hX)
      rw [HT0.out k] at CQ
      obtain ⟨X, hXX⟩ : ∃ X, X = tenL F (k + 1) := ⟨_, rfl⟩
      rw [← hXX] at CQ
      replace hXX : Hid (X = tenL F (k + 1)) := hXX
      have hlt' : (k : Int) < 10 := by omega
      replace CQ : Hid (Calls Altd.prog 37 _ wr _) := CQ
      clear hX
      go_wp2_with (fail)
      refine CQ.out.mono ?_
      rintro e w8 ⟨p8, c8, rfl, r8, b8⟩
      rw [hXX.out] at r8
      have hX8 := owns_mono r8.1 hw6
      have hF8 := in_belowI hF b8
      clear CQ r8 hF
      go_wp2
      go_roundw
      case rel => exact ⟨k + 1, p8, c8, by omega, by go_num, rfl, hX8, hF8, below_on hb b8⟩
      case measure => simp [intOf]; omega
    · have hk10 : k = 10 := by omega
      have hnl : ¬ (k : Int) < 10 := by omega
      rw [hk10] at hX
      clear hk10
      have lX : (tenL F 10).length = 16 := HT.out 10
      clear HT HT0
      generalize tenL F 10 = X at hX lX HB
      obtain ⟨gx, rfl⟩ := owns_at hX (by decide)
      obtain ⟨cx, hcx⟩ : ∃ cx, cx = cc := ⟨_, rfl⟩
      subst hcx
      have hgx := hX.lt gx rfl
      have hne : gf ≠ gx := by omega
      have h0 : wr.ownsRow w6.heap.size 3 1 (.slice (some ⟨gx, 0, none⟩) 16 cx) 16 ((sumsL X F 0).map (Value.int .i64)) := hX
      clear hX
      go_wp2_with (fail)
      obtain ⟨wo, hwo⟩ : ∃ wo, wo = wr := ⟨_, rfl⟩
      subst hwo
      go_loopw [10] (fun i wx => ∃ (k : Nat), k ≤ 16 ∧ i = .int .i64 k ∧ wx.ownsRow w6.heap.size 3 1 (.slice (some ⟨gx, 0, none⟩) 16 cx) 16 ((sumsL X F k).map (Value.int .i64)) ∧ IntsIn wx (some ⟨gf, 0, none⟩) 16 F ∧ Below w.heap.size w wx)
        (fun i _ => 16 - (intOf i).toNat)
      case atStart => exact ⟨0, by omega, rfl, h0, hF, hb⟩
      case round =>
        clear h0 hF hb
        obtain ⟨k, hk, rfl, hX, hF, hb⟩ := hrel
        by_cases hlt : k < 16
        · have hkX : k < X.length := by omega
          have hlt' : (k : Int) < 16 := by omega
          obtain ⟨u, hu⟩ : ∃ u, u = X.getD k 0 := ⟨_, rfl⟩
          obtain ⟨v, hv⟩ : ∃ v, v = F.getD k 0 := ⟨_, rfl⟩
          have cD : wr.cell? ⟨gx, k, none⟩ = some (.int .i64 u) := by rw [hX.cellAt k (by omega), List.getElem?_map, sumsL_get F hkX, hu]; rfl
          have cS : wr.cell? ⟨gf, k, none⟩ = some (.int .i64 v) := by
            obtain ⟨bb, oo, e1, e2⟩ := hF (by decide)
            simp only [Option.some.injEq, Addr.mk.injEq, and_true] at e1
            obtain ⟨rfl, rfl⟩ := e1
            have := e2 k (by omega)
            rw [Nat.zero_add] at this
            rw [this, hv]
          have hz : Hid (IntKind.i64.wrap (u + v) % 4294967296 = (((wordN (X.getD k 0) + wordN (F.getD k 0)) % 4294967296 : Nat) : Int)) := by rw [Hid, ← hu, ← hv]; exact wordN_add u v
          have hgfr : gf < wr.heap.size := World.block_lt_of_cell? wr ⟨gf, k, none⟩ cS
          have HS : Hid (∀ X, Below wr.heap.size wr X → X.cell? ⟨gx, k, none⟩ = some (.int .i64 u) ∧ X.cell? ⟨gf, k, none⟩ = some (.int .i64 v)) := fun X hX' => ⟨(hX'.cell (p := ⟨gx, k, none⟩) (hX.lt gx rfl).2).trans cD, (hX'.cell (p := ⟨gf, k, none⟩) hgfr).trans cS⟩
          clear hu hv
          go_wp2_with (fail)
          refine wp_region_noPanic ?_
          refine wp_region_K 13 (fun X => X.cell? ⟨gx, k, none⟩ = some (.int .i64 u) ∧ X.cell? ⟨gf, k, none⟩ = some (.int .i64 v)) (by kernel_rfl) ?_
          have hHeld := HS.out _ (below_drew0 wr)
          refine anyK_take (i := 0) (v := .slice (some ⟨gx, 0, none⟩) 16 cx) rfl rfl (by kernel_rfl) (by kernel_rfl) (by kernel_rfl) (by kernel_rfl) (by kernel_rfl) (fun _ _ _ h => h) (Or.inl ⟨by rfl, fun w hSw => by ((try dsimp only at hSw); go_simp)⟩) hHeld ?_
          simp only [Act.put, List.getElem_toArray, List.getElem_cons_zero, List.setIfInBounds_toArray, List.set_cons_zero, List.set_cons_succ]
          refine anyK_take (i := 1) (v := .int .i64 (k : Int)) rfl rfl (by kernel_rfl) (by kernel_rfl) (by kernel_rfl) (by kernel_rfl) (by kernel_rfl) (fun _ _ _ h => h) (Or.inl ⟨by rfl, fun w hSw => by ((try dsimp only at hSw); go_simp)⟩) hHeld ?_
          simp only [Act.put, List.getElem_toArray, List.getElem_cons_zero, List.getElem_cons_succ, List.setIfInBounds_toArray, List.set_cons_zero, List.set_cons_succ]
          refine anyK_take (i := 2) (v := .slice (some ⟨gx, 0, none⟩) 16 cx) rfl rfl (by kernel_rfl) (by kernel_rfl) (by kernel_rfl) (by kernel_rfl) (by kernel_rfl) (fun _ _ _ h => h) (Or.inl ⟨by rfl, fun w hSw => by ((try dsimp only at hSw); go_simp)⟩) hHeld ?_
          simp only [Act.put, List.getElem_toArray, List.getElem_cons_zero, List.getElem_cons_succ, List.setIfInBounds_toArray, List.set_cons_zero, List.set_cons_succ]
          refine anyK_take (i := 3) (v := .int .i64 (k : Int)) rfl rfl (by kernel_rfl) (by kernel_rfl) (by kernel_rfl) (by kernel_rfl) (by kernel_rfl) (fun _ _ _ h => h) (Or.inl ⟨by rfl, fun w hSw => by ((try dsimp only at hSw); go_simp)⟩) hHeld ?_
          simp only [Act.put, List.getElem_toArray, List.getElem_cons_zero, List.getElem_cons_succ, List.setIfInBounds_toArray, List.set_cons_zero, List.set_cons_succ]
          refine anyK_take (i := 4) (v := .pointer (some ⟨gx, k, none⟩)) rfl rfl (by kernel_rfl) (by kernel_rfl) (by kernel_rfl) (by kernel_rfl) (by kernel_rfl) (fun _ _ _ h => h) (Or.inl ⟨by rfl, fun w hSw => by ((try dsimp only at hSw); go_simp)⟩) hHeld ?_
          simp only [Act.put, List.getElem_toArray, List.getElem_cons_zero, List.getElem_cons_succ, List.setIfInBounds_toArray, List.set_cons_zero, List.set_cons_succ]
          refine anyK_take (i := 5) (v := .int .i64 u) rfl rfl (by kernel_rfl) (by kernel_rfl) (by kernel_rfl) (by kernel_rfl) (by kernel_rfl) (fun _ _ _ h => h) (Or.inl ⟨by rfl, fun w hSw => by (obtain ⟨hSw1, hSw2⟩ := hSw; go_simp)⟩) hHeld ?_
          simp only [Act.put, List.getElem_toArray, List.getElem_cons_zero, List.getElem_cons_succ, List.setIfInBounds_toArray, List.set_cons_zero, List.set_cons_succ]
          refine anyK_take (i := 6) (v := .slice (some ⟨gf, 0, none⟩) 16 cf) rfl rfl (by kernel_rfl) (by kernel_rfl) (by kernel_rfl) (by kernel_rfl) (by kernel_rfl) (fun _ _ _ h => h) (Or.inl ⟨by rfl, fun w hSw => by ((try dsimp only at hSw); go_simp)⟩) hHeld ?_
          simp only [Act.put, List.getElem_toArray, List.getElem_cons_zero, List.getElem_cons_succ, List.setIfInBounds_toArray, List.set_cons_zero, List.set_cons_succ]
          refine anyK_take (i := 7) (v := .int .i64 (k : Int)) rfl rfl (by kernel_rfl) (by kernel_rfl) (by kernel_rfl) (by kernel_rfl) (by kernel_rfl) (fun _ _ _ h => h) (Or.inl ⟨by rfl, fun w hSw => by ((try dsimp only at hSw); go_simp)⟩) hHeld ?_
          simp only [Act.put, List.getElem_toArray, List.getElem_cons_zero, List.getElem_cons_succ, List.setIfInBounds_toArray, List.set_cons_zero, List.set_cons_succ]
          refine anyK_take (i := 8) (v := .pointer (some ⟨gf, k, none⟩)) rfl rfl (by kernel_rfl) (by kernel_rfl) (by kernel_rfl) (by kernel_rfl) (by kernel_rfl) (fun _ _ _ h => h) (Or.inl ⟨by rfl, fun w hSw => by ((try dsimp only at hSw); go_simp)⟩) hHeld ?_
          simp only [Act.put, List.getElem_toArray, List.getElem_cons_zero, List.getElem_cons_succ, List.setIfInBounds_toArray, List.set_cons_zero, List.set_cons_succ]
          refine anyK_take (i := 9) (v := .int .i64 v) rfl rfl (by kernel_rfl) (by kernel_rfl) (by kernel_rfl) (by kernel_rfl) (by kernel_rfl) (fun _ _ _ h => h) (Or.inl ⟨by rfl, fun w hSw => by (obtain ⟨hSw1, hSw2⟩ := hSw; go_simp)⟩) hHeld ?_
          simp only [Act.put, List.getElem_toArray, List.getElem_cons_zero, List.getElem_cons_succ, List.setIfInBounds_toArray, List.set_cons_zero, List.set_cons_succ]
          refine anyK_take (i := 10) (v := .int .i64 (IntKind.i64.wrap (u + v))) rfl rfl (by kernel_rfl) (by kernel_rfl) (by kernel_rfl) (by kernel_rfl) (by kernel_rfl) (fun _ _ _ h => h) (Or.inl ⟨by rfl, fun w hSw => by ((try dsimp only at hSw); go_simp)⟩) hHeld ?_
          simp only [Act.put, List.getElem_toArray, List.getElem_cons_zero, List.getElem_cons_succ, List.setIfInBounds_toArray, List.set_cons_zero, List.set_cons_succ]
          refine anyK_one (i := 11) (by kernel_rfl) rfl (fun K hK => ?_)
          go_simp
          refine (specWord_any _ _).mono ?_
          rintro e w9 ⟨rfl, b9'⟩
          have b9 := below_on (below_drew0 wr) b9'
          go_wp2_with (fail)
          refine hK.out _ _ (fun _ => HS.out _ b9) ?_
          clear hK K
          have hHeld9 := HS.out _ b9
          refine anyK_take (i := 12) (v := .pointer (some ⟨gx, k, none⟩)) rfl rfl (by kernel_rfl) (by kernel_rfl) (by kernel_rfl) (by kernel_rfl) (by kernel_rfl) (fun _ _ _ h => h) (Or.inl ⟨by rfl, fun w hSw => by ((try dsimp only at hSw); go_simp)⟩) hHeld9 ?_
          simp only [Act.put, List.getElem_toArray, List.getElem_cons_zero, List.getElem_cons_succ, List.setIfInBounds_toArray, List.set_cons_zero, List.set_cons_succ]
          have cw9 := hHeld9.1
          have fz9 := (owns_below hX b9).frozenAt k
          have st := (owns_below hX b9).stored k (.int .i64 (IntKind.i64.wrap (u + v) % 4294967296))
          rw [← List.map_set, sumsL_set F hkX _ hz.out] at st
          have inF := in_belowI hF b9
          have inF2 : IntsIn (w9.setCell ⟨gx, k, none⟩ (.int .i64 (IntKind.i64.wrap (u + v) % 4294967296))) (some ⟨gf, 0, none⟩) 16 F := fun h0 => by
            obtain ⟨bb, oo, e1, e2⟩ := inF h0
            simp only [Option.some.injEq, Addr.mk.injEq, and_true] at e1
            obtain ⟨rfl, rfl⟩ := e1
            exact ⟨_, _, rfl, fun i hi => (cell_grownQ (p := ⟨gf, 0 + i, none⟩) st.2 (World.block_lt_of_cell? w9 ⟨gf, 0 + i, none⟩ (e2 i hi)) (show gf ≠ gx by omega)).trans (e2 i hi)⟩
          have belN : Below w.heap.size w (w9.setCell ⟨gx, k, none⟩ (.int .i64 (IntKind.i64.wrap (u + v) % 4294967296))) := (below_on hb b9).grown st.2 (below_on hb b9).size (fun i hi => by cases hi; omega)
          refine anyK_one (i := 13) (by kernel_rfl) rfl (fun K hK => ?_)
          go_simp
          refine hK.out _ _ (fun h => by cases h) ?_
          clear hK K
          refine anyK_done (by kernel_rfl) ?_ _
          refine NoPanic.normal ?_
          have stN := st.1
          clear hX hF hb HS b9 b9' hHeld hHeld9 cw9 fz9 st inF cD cS
          generalize w9.setCell ⟨gx, k, none⟩ (.int .i64 (IntKind.i64.wrap (u + v) % 4294967296)) = wc at stN inF2 belN ⊢
          go_wp2
          go_roundw
          case rel => exact ⟨k + 1, by omega, by go_num, stN, inF2, belN⟩
          case measure => simp [intOf]; omega
        · have hk16 : k = 16 := by omega
          have hnl2 : ¬ (k : Int) < 16 := by omega
          rw [hk16] at hX
          have CW := specWordBytes_any (some ⟨gx, 0, none⟩) 16 cx false (sumsL X F 16) wr (by omega) (by rw [sumsL_length F (by omega)]; exact lX) (owns_inI hX)
          rw [HB.out] at CW
          clear hk16
          replace CW : Hid (Calls Altd.prog 39 _ wr _) := CW
          clear hX hF
          go_wp2_with (fail)
          refine CW.out.mono ?_
          rintro e w8 ⟨p8, c8, rfl, r8, b8⟩
          have hsr := hb.size
          go_wp2
          go_ret
          exact ⟨_, _, rfl, ⟨owns_mono r8.1 hsr, r8.2⟩, below_on hb b8⟩

theorem specBlk_no (p q : Option Addr) (n m c d : Nat) (count : Int) (w : World) (hno : ¬ blkOk n m count) :
    Calls Altd.prog 13 #[.slice p n c, .int .i64 count, .slice q m d] w fun e w' => ∃ p' c', e = .returned (.slice p' 0 c') ∧ Own 5 w' w.heap.size w'.heap.size (.slice p' 0 c') 0 [] ∧ Below w.heap.size w w' := by
  unfold blkOk at hno
  by_cases h1 : n = 32
  rotate_left
  · have z1 : ((n : Int) != 32) = true := by simp; omega
    go_enter Altd.func13, Altd.ntmps13
    go_wp2
    go_ret
    exact ⟨_, _, rfl, .of (World.ownsRow_made w #[] 0 (Nat.le_refl _) (by unfold maxLen; omega) rfl), (Below.refl _ _).alloc (Nat.le_refl _) _⟩
  subst h1
  by_cases h2 : m = 12
  rotate_left
  · have z2 : ((m : Int) != 12) = true := by simp; omega
    go_enter Altd.func13, Altd.ntmps13
    go_wp2
    go_ret
    exact ⟨_, _, rfl, .of (World.ownsRow_made w #[] 0 (Nat.le_refl _) (by unfold maxLen; omega) rfl), (Below.refl _ _).alloc (Nat.le_refl _) _⟩
  subst h2
  have hc : ¬ (0 ≤ count ∧ count ≤ 4294967295) := fun e => hno ⟨rfl, rfl, e⟩
  have CI := l1In_is count 0 4294967295 w
  rw [decide_eq_false hc] at CI
  go_enter Altd.func13, Altd.ntmps13
  go_wp2_with (fail)
  refine CI.mono ?_
  rintro e w1 ⟨rfl, rfl⟩
  go_wp2
  go_ret
  exact ⟨_, _, rfl, .of (World.ownsRow_made _ #[] 0 (Nat.le_refl _) (by unfold maxLen; omega) rfl), (Below.refl _ _).alloc (Nat.le_refl _) _⟩
theorem specBlk_any (p q : Option Addr) (n m c d : Nat) (count : Int) (ks ns : List Int) (w : World) (hx : ks.length = n) (hy : ns.length = m) (h : BytesIn w p n ks) (h' : BytesIn w q m ns) (hb1 : ∀ x ∈ ks, 0 ≤ x ∧ x < 256) (hb2 : ∀ x ∈ ns, 0 ≤ x ∧ x < 256) :
    Calls Altd.prog 13 #[.slice p n c, .int .i64 count, .slice q m d] w fun e w' => ∃ p' c', e = .returned (.slice p' (blkN n m count) c') ∧ Own 5 w' w.heap.size w'.heap.size (.slice p' (blkN n m count) c') (blkN n m count) (blkL ks count ns) ∧ Below w.heap.size w w' := by
  unfold blkN blkL
  rw [hx, hy]
  by_cases hok : blkOk n m count
  · rw [if_pos hok, if_pos hok]
    obtain ⟨rfl, rfl, hc⟩ := hok
    exact specBlk_yes p q c d ks ns count w hx hy h h' hb1 hb2 hc
  · rw [if_neg hok, if_neg hok]
    exact specBlk_no p q n m c d count w hok

end Go.Proofs.YtepbidaoloplbaaDoor.Alt

namespace Go.Proofs.YtepbidaoloplbaaDoor
open Go.RowKit

/-- The bytes of both, as many as the shorter one has, one or the other, not both. -/
def xorL (xs ys : List Int) : List Int := List.zipWith (fun u v => bits BinOp.xor IntKind.u8 u v) xs ys

theorem xorL_length (xs ys : List Int) : (xorL xs ys).length = min xs.length ys.length := by simp [xorL]

theorem xorL_step {xs ys : List Int} {n m k : Nat} {u v : Int} (hx : xs.length = n) (hy : ys.length = m) (hk : k < n) (hk' : k < m) (hu : u = xs.getD k 0) (hv : v = ys.getD k 0) :
    xorL (xs.take k) (ys.take k) ++ [bits BinOp.xor IntKind.u8 u v] = xorL (xs.take (k + 1)) (ys.take (k + 1)) := by
  subst hu hv
  unfold xorL
  rw [List.take_succ_eq_append_getElem (by omega), List.take_succ_eq_append_getElem (by omega), List.zipWith_append (by simp; omega)]
  simp [List.getElem?_eq_getElem (show k < xs.length by omega), List.getElem?_eq_getElem (show k < ys.length by omega)]

theorem xorL_all {xs ys : List Int} {n m k : Nat} (hx : xs.length = n) (hy : ys.length = m) (h : k = min n m) : xorL (xs.take k) (ys.take k) = xorL xs ys := by
  subst hx hy h
  unfold xorL
  apply List.ext_getElem
  · simp
  · intro i h1 h2; simp

set_option maxHeartbeats 1000000 in
theorem specXor_any (p q : Option Addr) (n m c d : Nat) (xs ys : List Int) (w : World) (hn : n ≤ 1048576) (hm : m ≤ 1048576) (hx : xs.length = n) (hy : ys.length = m) (h : BytesIn w p n xs) (h' : BytesIn w q m ys) :
    Calls Tryd.prog 34 #[.slice p n c, .slice q m d] w fun e w' => ∃ v, e = .returned v ∧ w'.ownsRow w.heap.size 5 1 v (min n m) ((xorL xs ys).map (Value.int .u8)) ∧ Below w.heap.size w w' := by
  obtain ⟨i0, hi, hz0, hz1, hz2⟩ := info_parts infoByte
  go_enter Tryd.func34, Tryd.ntmps34
  go_wp2
  go_loopw [5, 6] (fun v i wr => ∃ k : Nat, k ≤ n ∧ k ≤ m ∧ i = .int .i64 k ∧ wr.ownsRow w.heap.size 5 1 v k ((xorL (xs.take k) (ys.take k)).map (Value.int .u8)) ∧ Below w.heap.size w wr)
    (fun _ i _ => n - (intOf i).toNat)
  case atStart => exact ⟨0, Nat.zero_le _, Nat.zero_le _, rfl, World.ownsRow_made w #[] 0 (Nat.le_refl _) (by unfold maxLen; omega) rfl, (Below.refl _ _).alloc (Nat.le_refl _) _⟩
  case round =>
    obtain ⟨k, hk, hk', rfl, hown, hbel⟩ := hrel
    have hsz := hbel.size
    by_cases hlt : k < n
    · by_cases hlt' : k < m
      · obtain ⟨b, o, rfl, hc⟩ := h (by omega)
        obtain ⟨b', o', rfl, hc'⟩ := h' (by omega)
        have hcx : wr.cell? ⟨b, o + k, none⟩ = some (.int .u8 (xs.getD k 0)) := by
          rw [hbel.cell (p := ⟨b, o + k, none⟩) (World.block_lt_of_cell? w ⟨b, o + k, none⟩ (hc k hlt))]
          exact hc k hlt
        have hcy : wr.cell? ⟨b', o' + k, none⟩ = some (.int .u8 (ys.getD k 0)) := by
          rw [hbel.cell (p := ⟨b', o' + k, none⟩) (World.block_lt_of_cell? w ⟨b', o' + k, none⟩ (hc' k hlt'))]
          exact hc' k hlt'
        obtain ⟨u, hu⟩ : ∃ u, u = xs.getD k 0 := ⟨_, rfl⟩
        obtain ⟨v, hv⟩ : ∃ v, v = ys.getD k 0 := ⟨_, rfl⟩
        rw [← hu] at hcx
        rw [← hv] at hcy
        have hnext := xorL_step hx hy hlt hlt' hu hv
        have HN : Hid (xorL (xs.take k) (ys.take k) ++ [bits BinOp.xor IntKind.u8 u v] = xorL (xs.take (k + 1)) (ys.take (k + 1))) := hnext
        clear hc hc' h h' hu hv hnext
        go_wp2
        go_region_law (refine step_push hi hz0 hz1 hz2 (.tmp 20) (.tmp 30) 22 Tryd.underlying22 _ hown (by omega) hsz (by rfl) (by rfl) (by rfl) (by rfl) ?_; intro g cap w1 ho1 hb1; rw [HN.out] at ho1)
        all_goals
          go_wp2
          go_roundw
          case rel => exact ⟨k + 1, by omega, by omega, by go_num, ho1, hbel.trans hb1⟩
          case measure => simp [intOf]; omega
      · rw [xorL_all hx hy (by omega), show k = min n m by omega] at hown
        go_wp2
        go_ret
        exact ⟨_, rfl, hown, hbel⟩
    · rw [xorL_all hx hy (by omega), show k = min n m by omega] at hown
      go_wp2
      go_ret
      exact ⟨_, rfl, hown, hbel⟩

theorem xorL_getD {xs ys : List Int} {n m k : Nat} {u v : Int} (hx : xs.length = n) (hy : ys.length = m) (hk : k < n) (hk' : k < m) (hu : u = xs.getD k 0) (hv : v = ys.getD k 0) :
    bits BinOp.xor IntKind.u8 u v = (xorL xs ys).getD k 0 := by
  subst hu hv hx hy
  simp [xorL, List.getElem?_eq_getElem hk, List.getElem?_eq_getElem hk', List.getElem?_zipWith]

set_option maxHeartbeats 1000000 in
theorem implXor_le (p q : Option Addr) (n m c d : Nat) (xs ys : List Int) (w : World) (hn : n ≤ 1048576) (hm : m ≤ 1048576) (hx : xs.length = n) (hy : ys.length = m) (h : BytesIn w p n xs) (h' : BytesIn w q m ys) (hmin : n ≤ m) :
    Calls Tryd.prog 31 #[.slice p n c, .slice q m d] w fun e w' => ∃ v, e = .returned v ∧ w'.ownsRow w.heap.size 5 1 v n ((xorL xs ys).map (Value.int .u8)) ∧ Below w.heap.size w w' := by
  obtain ⟨i0, hi, hz0, hz1, hz2⟩ := info_parts infoByte
  have hl : (xorL xs ys).length = n := by rw [xorL_length, hx, hy]; omega
  go_enter Tryd.func31, Tryd.ntmps31
  go_wp2_with (at_make; refine wpList_make_full _ rfl _ _ 22 rfl w.heap.size 5 i0 (.int .u8 0) 1 Tryd.underlying22 hi hz0 hz1 _ _ _ _ n rfl rfl rfl rfl ?b2 ?b3 ?b4 ?_)
  case b2 => rw [hz2]; omega
  case b3 => unfold maxLen; omega
  case b4 => exact Nat.le_refl _
  intro w1 hown hgrow
  rw [fill_start (xorL xs ys) n] at hown
  have hbel : Below w.heap.size w w1 := (Below.refl _ _).grown hgrow (Nat.le_refl _) (fun _ h => by cases h)
  clear hgrow
  go_wp2
  go_loopw [15] (fun i wr => ∃ k : Nat, k ≤ n ∧ i = .int .i64 k ∧ wr.ownsRow w.heap.size 5 1 (.slice (some ⟨w.heap.size, 0, none⟩) n n) n (((xorL xs ys).take k ++ List.replicate (n - k) 0).map (Value.int .u8)) ∧ Below w.heap.size w wr)
    (fun i _ => n - (intOf i).toNat)
  case atStart => exact ⟨0, Nat.zero_le _, rfl, hown, hbel⟩
  case round =>
    clear hown hbel
    obtain ⟨k, hk, rfl, hown, hbel⟩ := hrel
    by_cases hlt : k < n
    · have hlx : k < n := by omega
      have hly : k < m := by omega
      obtain ⟨b, o, rfl, hc⟩ := h (by omega)
      obtain ⟨b', o', rfl, hc'⟩ := h' (by omega)
      have hcx : wr.cell? ⟨b, o + k, none⟩ = some (.int .u8 (xs.getD k 0)) := by
        rw [hbel.cell (p := ⟨b, o + k, none⟩) (World.block_lt_of_cell? w ⟨b, o + k, none⟩ (hc k hlx))]
        exact hc k hlx
      have hcy : wr.cell? ⟨b', o' + k, none⟩ = some (.int .u8 (ys.getD k 0)) := by
        rw [hbel.cell (p := ⟨b', o' + k, none⟩) (World.block_lt_of_cell? w ⟨b', o' + k, none⟩ (hc' k hly))]
        exact hc' k hly
      obtain ⟨u, hu⟩ : ∃ u, u = xs.getD k 0 := ⟨_, rfl⟩
      obtain ⟨v, hv⟩ : ∃ v, v = ys.getD k 0 := ⟨_, rfl⟩
      rw [← hu] at hcx
      rw [← hv] at hcy
      have hold : wr.cell? ⟨w.heap.size, k, none⟩ = some (.int .u8 0) := by
        rw [hown.cellAt k (by omega)]; exact fill_old _ n k hlt hl
      have hfz := hown.frozenAt k
      have hst := hown.stored k (.int .u8 (bits BinOp.xor IntKind.u8 u v))
      rw [fill_step (xorL xs ys) n k _ (xorL_getD hx hy hlx hly hu hv) hlt hl] at hst
      have hbel' := hbel.setCell (p := ⟨w.heap.size, k, none⟩) (Nat.le_refl _) (.int .u8 (bits BinOp.xor IntKind.u8 u v))
      clear hc hc' h h' hu hv
      go_wp2
      go_region
      all_goals
        go_wp2
        go_roundw
        case rel => exact ⟨k + 1, by omega, by go_num, hst.1, hbel'.drew⟩
        case measure => simp [intOf]; omega
    · have hkn : k = n := by omega
      subst hkn
      go_wp2
      go_ret
      rw [fill_end _ _ hl] at hown
      exact ⟨_, rfl, hown, hbel⟩

set_option maxHeartbeats 1000000 in
theorem implXor_gt (p q : Option Addr) (n m c d : Nat) (xs ys : List Int) (w : World) (hn : n ≤ 1048576) (hm : m ≤ 1048576) (hx : xs.length = n) (hy : ys.length = m) (h : BytesIn w p n xs) (h' : BytesIn w q m ys) (hmin : m < n) :
    Calls Tryd.prog 31 #[.slice p n c, .slice q m d] w fun e w' => ∃ v, e = .returned v ∧ w'.ownsRow w.heap.size 5 1 v m ((xorL xs ys).map (Value.int .u8)) ∧ Below w.heap.size w w' := by
  obtain ⟨i0, hi, hz0, hz1, hz2⟩ := info_parts infoByte
  have hl : (xorL xs ys).length = m := by rw [xorL_length, hx, hy]; omega
  go_enter Tryd.func31, Tryd.ntmps31
  go_wp2_with (at_make; refine wpList_make_full _ rfl _ _ 22 rfl w.heap.size 5 i0 (.int .u8 0) 1 Tryd.underlying22 hi hz0 hz1 _ _ _ _ m rfl rfl rfl rfl ?b2 ?b3 ?b4 ?_)
  case b2 => rw [hz2]; omega
  case b3 => unfold maxLen; omega
  case b4 => exact Nat.le_refl _
  intro w1 hown hgrow
  rw [fill_start (xorL xs ys) m] at hown
  have hbel : Below w.heap.size w w1 := (Below.refl _ _).grown hgrow (Nat.le_refl _) (fun _ h => by cases h)
  clear hgrow
  go_wp2
  go_loopw [15] (fun i wr => ∃ k : Nat, k ≤ m ∧ i = .int .i64 k ∧ wr.ownsRow w.heap.size 5 1 (.slice (some ⟨w.heap.size, 0, none⟩) m m) m (((xorL xs ys).take k ++ List.replicate (m - k) 0).map (Value.int .u8)) ∧ Below w.heap.size w wr)
    (fun i _ => m - (intOf i).toNat)
  case atStart => exact ⟨0, Nat.zero_le _, rfl, hown, hbel⟩
  case round =>
    clear hown hbel
    obtain ⟨k, hk, rfl, hown, hbel⟩ := hrel
    by_cases hlt : k < m
    · have hlx : k < n := by omega
      have hly : k < m := by omega
      obtain ⟨b, o, rfl, hc⟩ := h (by omega)
      obtain ⟨b', o', rfl, hc'⟩ := h' (by omega)
      have hcx : wr.cell? ⟨b, o + k, none⟩ = some (.int .u8 (xs.getD k 0)) := by
        rw [hbel.cell (p := ⟨b, o + k, none⟩) (World.block_lt_of_cell? w ⟨b, o + k, none⟩ (hc k hlx))]
        exact hc k hlx
      have hcy : wr.cell? ⟨b', o' + k, none⟩ = some (.int .u8 (ys.getD k 0)) := by
        rw [hbel.cell (p := ⟨b', o' + k, none⟩) (World.block_lt_of_cell? w ⟨b', o' + k, none⟩ (hc' k hly))]
        exact hc' k hly
      obtain ⟨u, hu⟩ : ∃ u, u = xs.getD k 0 := ⟨_, rfl⟩
      obtain ⟨v, hv⟩ : ∃ v, v = ys.getD k 0 := ⟨_, rfl⟩
      rw [← hu] at hcx
      rw [← hv] at hcy
      have hold : wr.cell? ⟨w.heap.size, k, none⟩ = some (.int .u8 0) := by
        rw [hown.cellAt k (by omega)]; exact fill_old _ m k hlt hl
      have hfz := hown.frozenAt k
      have hst := hown.stored k (.int .u8 (bits BinOp.xor IntKind.u8 u v))
      rw [fill_step (xorL xs ys) m k _ (xorL_getD hx hy hlx hly hu hv) hlt hl] at hst
      have hbel' := hbel.setCell (p := ⟨w.heap.size, k, none⟩) (Nat.le_refl _) (.int .u8 (bits BinOp.xor IntKind.u8 u v))
      clear hc hc' h h' hu hv
      go_wp2
      go_region
      all_goals
        go_wp2
        go_roundw
        case rel => exact ⟨k + 1, by omega, by go_num, hst.1, hbel'.drew⟩
        case measure => simp [intOf]; omega
    · have hkn : k = m := by omega
      subst hkn
      go_wp2
      go_ret
      rw [fill_end _ _ hl] at hown
      exact ⟨_, rfl, hown, hbel⟩

theorem implXor_any (p q : Option Addr) (n m c d : Nat) (xs ys : List Int) (w : World) (hn : n ≤ 1048576) (hm : m ≤ 1048576) (hx : xs.length = n) (hy : ys.length = m) (h : BytesIn w p n xs) (h' : BytesIn w q m ys) :
    Calls Tryd.prog 31 #[.slice p n c, .slice q m d] w fun e w' => ∃ v, e = .returned v ∧ w'.ownsRow w.heap.size 5 1 v (min n m) ((xorL xs ys).map (Value.int .u8)) ∧ Below w.heap.size w w' := by
  by_cases hle : n ≤ m
  · rw [show min n m = n by omega]
    exact implXor_le p q n m c d xs ys w hn hm hx hy h h' hle
  · rw [show min n m = m by omega]
    exact implXor_gt p q n m c d xs ys w hn hm hx hy h h' (by omega)

theorem specXor_own (p q : Option Addr) (n m c d : Nat) (xs ys : List Int) (w : World) (hn : n ≤ 1048576) (hm : m ≤ 1048576) (hx : xs.length = n) (hy : ys.length = m) (h : BytesIn w p n xs) (h' : BytesIn w q m ys) :
    Calls Tryd.prog 34 #[.slice p n c, .slice q m d] w fun e w' => ∃ p' c', e = .returned (.slice p' (min n m) c') ∧ Own 5 w' w.heap.size w'.heap.size (.slice p' (min n m) c') (min n m) (xorL xs ys) ∧ Below w.heap.size w w' := by
  refine (specXor_any p q n m c d xs ys w hn hm hx hy h h').mono fun e w' ⟨v, h1, h2, h3⟩ => ?_
  obtain ⟨p', c', rfl⟩ := owns_form h2
  exact ⟨p', c', h1, .of h2, h3⟩

end Go.Proofs.YtepbidaoloplbaaDoor

namespace Go.Proofs.YtepbidaoloplbaaDoor.Alt
open Go.RowKit

set_option maxHeartbeats 1000000 in
theorem specXor_any (p q : Option Addr) (n m c d : Nat) (xs ys : List Int) (w : World) (hn : n ≤ 1048576) (hm : m ≤ 1048576) (hx : xs.length = n) (hy : ys.length = m) (h : BytesIn w p n xs) (h' : BytesIn w q m ys) :
    Calls Altd.prog 34 #[.slice p n c, .slice q m d] w fun e w' => ∃ v, e = .returned v ∧ w'.ownsRow w.heap.size 5 1 v (min n m) ((xorL xs ys).map (Value.int .u8)) ∧ Below w.heap.size w w' := by
  obtain ⟨i0, hi, hz0, hz1, hz2⟩ := info_parts infoByte
  go_enter Altd.func34, Altd.ntmps34
  go_wp2
  go_loopw [5, 6] (fun v i wr => ∃ k : Nat, k ≤ n ∧ k ≤ m ∧ i = .int .i64 k ∧ wr.ownsRow w.heap.size 5 1 v k ((xorL (xs.take k) (ys.take k)).map (Value.int .u8)) ∧ Below w.heap.size w wr)
    (fun _ i _ => n - (intOf i).toNat)
  case atStart => exact ⟨0, Nat.zero_le _, Nat.zero_le _, rfl, World.ownsRow_made w #[] 0 (Nat.le_refl _) (by unfold maxLen; omega) rfl, (Below.refl _ _).alloc (Nat.le_refl _) _⟩
  case round =>
    obtain ⟨k, hk, hk', rfl, hown, hbel⟩ := hrel
    have hsz := hbel.size
    by_cases hlt : k < n
    · by_cases hlt' : k < m
      · obtain ⟨b, o, rfl, hc⟩ := h (by omega)
        obtain ⟨b', o', rfl, hc'⟩ := h' (by omega)
        have hcx : wr.cell? ⟨b, o + k, none⟩ = some (.int .u8 (xs.getD k 0)) := by
          rw [hbel.cell (p := ⟨b, o + k, none⟩) (World.block_lt_of_cell? w ⟨b, o + k, none⟩ (hc k hlt))]
          exact hc k hlt
        have hcy : wr.cell? ⟨b', o' + k, none⟩ = some (.int .u8 (ys.getD k 0)) := by
          rw [hbel.cell (p := ⟨b', o' + k, none⟩) (World.block_lt_of_cell? w ⟨b', o' + k, none⟩ (hc' k hlt'))]
          exact hc' k hlt'
        obtain ⟨u, hu⟩ : ∃ u, u = xs.getD k 0 := ⟨_, rfl⟩
        obtain ⟨v, hv⟩ : ∃ v, v = ys.getD k 0 := ⟨_, rfl⟩
        rw [← hu] at hcx
        rw [← hv] at hcy
        have hnext := xorL_step hx hy hlt hlt' hu hv
        have HN : Hid (xorL (xs.take k) (ys.take k) ++ [bits BinOp.xor IntKind.u8 u v] = xorL (xs.take (k + 1)) (ys.take (k + 1))) := hnext
        clear hc hc' h h' hu hv hnext
        go_wp2
        go_region_law (refine step_push hi hz0 hz1 hz2 (.tmp 20) (.tmp 30) 22 Altd.underlying22 _ hown (by omega) hsz (by rfl) (by rfl) (by rfl) (by rfl) ?_; intro g cap w1 ho1 hb1; rw [HN.out] at ho1)
        all_goals
          go_wp2
          go_roundw
          case rel => exact ⟨k + 1, by omega, by omega, by go_num, ho1, hbel.trans hb1⟩
          case measure => simp [intOf]; omega
      · rw [xorL_all hx hy (by omega), show k = min n m by omega] at hown
        go_wp2
        go_ret
        exact ⟨_, rfl, hown, hbel⟩
    · rw [xorL_all hx hy (by omega), show k = min n m by omega] at hown
      go_wp2
      go_ret
      exact ⟨_, rfl, hown, hbel⟩

set_option maxHeartbeats 1000000 in
theorem implXor_le (p q : Option Addr) (n m c d : Nat) (xs ys : List Int) (w : World) (hn : n ≤ 1048576) (hm : m ≤ 1048576) (hx : xs.length = n) (hy : ys.length = m) (h : BytesIn w p n xs) (h' : BytesIn w q m ys) (hmin : n ≤ m) :
    Calls Altd.prog 31 #[.slice p n c, .slice q m d] w fun e w' => ∃ v, e = .returned v ∧ w'.ownsRow w.heap.size 5 1 v n ((xorL xs ys).map (Value.int .u8)) ∧ Below w.heap.size w w' := by
  obtain ⟨i0, hi, hz0, hz1, hz2⟩ := info_parts infoByte
  have hl : (xorL xs ys).length = n := by rw [xorL_length, hx, hy]; omega
  go_enter Altd.func31, Altd.ntmps31
  go_wp2_with (at_make; refine wpList_make_full _ rfl _ _ 22 rfl w.heap.size 5 i0 (.int .u8 0) 1 Altd.underlying22 hi hz0 hz1 _ _ _ _ n rfl rfl rfl rfl ?b2 ?b3 ?b4 ?_)
  case b2 => rw [hz2]; omega
  case b3 => unfold maxLen; omega
  case b4 => exact Nat.le_refl _
  intro w1 hown hgrow
  rw [fill_start (xorL xs ys) n] at hown
  have hbel : Below w.heap.size w w1 := (Below.refl _ _).grown hgrow (Nat.le_refl _) (fun _ h => by cases h)
  clear hgrow
  go_wp2
  go_loopw [15] (fun i wr => ∃ k : Nat, k ≤ n ∧ i = .int .i64 k ∧ wr.ownsRow w.heap.size 5 1 (.slice (some ⟨w.heap.size, 0, none⟩) n n) n (((xorL xs ys).take k ++ List.replicate (n - k) 0).map (Value.int .u8)) ∧ Below w.heap.size w wr)
    (fun i _ => n - (intOf i).toNat)
  case atStart => exact ⟨0, Nat.zero_le _, rfl, hown, hbel⟩
  case round =>
    clear hown hbel
    obtain ⟨k, hk, rfl, hown, hbel⟩ := hrel
    by_cases hlt : k < n
    · have hlx : k < n := by omega
      have hly : k < m := by omega
      obtain ⟨b, o, rfl, hc⟩ := h (by omega)
      obtain ⟨b', o', rfl, hc'⟩ := h' (by omega)
      have hcx : wr.cell? ⟨b, o + k, none⟩ = some (.int .u8 (xs.getD k 0)) := by
        rw [hbel.cell (p := ⟨b, o + k, none⟩) (World.block_lt_of_cell? w ⟨b, o + k, none⟩ (hc k hlx))]
        exact hc k hlx
      have hcy : wr.cell? ⟨b', o' + k, none⟩ = some (.int .u8 (ys.getD k 0)) := by
        rw [hbel.cell (p := ⟨b', o' + k, none⟩) (World.block_lt_of_cell? w ⟨b', o' + k, none⟩ (hc' k hly))]
        exact hc' k hly
      obtain ⟨u, hu⟩ : ∃ u, u = xs.getD k 0 := ⟨_, rfl⟩
      obtain ⟨v, hv⟩ : ∃ v, v = ys.getD k 0 := ⟨_, rfl⟩
      rw [← hu] at hcx
      rw [← hv] at hcy
      have hold : wr.cell? ⟨w.heap.size, k, none⟩ = some (.int .u8 0) := by
        rw [hown.cellAt k (by omega)]; exact fill_old _ n k hlt hl
      have hfz := hown.frozenAt k
      have hst := hown.stored k (.int .u8 (bits BinOp.xor IntKind.u8 u v))
      rw [fill_step (xorL xs ys) n k _ (xorL_getD hx hy hlx hly hu hv) hlt hl] at hst
      have hbel' := hbel.setCell (p := ⟨w.heap.size, k, none⟩) (Nat.le_refl _) (.int .u8 (bits BinOp.xor IntKind.u8 u v))
      clear hc hc' h h' hu hv
      go_wp2
      go_region
      all_goals
        go_wp2
        go_roundw
        case rel => exact ⟨k + 1, by omega, by go_num, hst.1, hbel'.drew⟩
        case measure => simp [intOf]; omega
    · have hkn : k = n := by omega
      subst hkn
      go_wp2
      go_ret
      rw [fill_end _ _ hl] at hown
      exact ⟨_, rfl, hown, hbel⟩

set_option maxHeartbeats 1000000 in
theorem implXor_gt (p q : Option Addr) (n m c d : Nat) (xs ys : List Int) (w : World) (hn : n ≤ 1048576) (hm : m ≤ 1048576) (hx : xs.length = n) (hy : ys.length = m) (h : BytesIn w p n xs) (h' : BytesIn w q m ys) (hmin : m < n) :
    Calls Altd.prog 31 #[.slice p n c, .slice q m d] w fun e w' => ∃ v, e = .returned v ∧ w'.ownsRow w.heap.size 5 1 v m ((xorL xs ys).map (Value.int .u8)) ∧ Below w.heap.size w w' := by
  obtain ⟨i0, hi, hz0, hz1, hz2⟩ := info_parts infoByte
  have hl : (xorL xs ys).length = m := by rw [xorL_length, hx, hy]; omega
  go_enter Altd.func31, Altd.ntmps31
  go_wp2_with (at_make; refine wpList_make_full _ rfl _ _ 22 rfl w.heap.size 5 i0 (.int .u8 0) 1 Altd.underlying22 hi hz0 hz1 _ _ _ _ m rfl rfl rfl rfl ?b2 ?b3 ?b4 ?_)
  case b2 => rw [hz2]; omega
  case b3 => unfold maxLen; omega
  case b4 => exact Nat.le_refl _
  intro w1 hown hgrow
  rw [fill_start (xorL xs ys) m] at hown
  have hbel : Below w.heap.size w w1 := (Below.refl _ _).grown hgrow (Nat.le_refl _) (fun _ h => by cases h)
  clear hgrow
  go_wp2
  go_loopw [15] (fun i wr => ∃ k : Nat, k ≤ m ∧ i = .int .i64 k ∧ wr.ownsRow w.heap.size 5 1 (.slice (some ⟨w.heap.size, 0, none⟩) m m) m (((xorL xs ys).take k ++ List.replicate (m - k) 0).map (Value.int .u8)) ∧ Below w.heap.size w wr)
    (fun i _ => m - (intOf i).toNat)
  case atStart => exact ⟨0, Nat.zero_le _, rfl, hown, hbel⟩
  case round =>
    clear hown hbel
    obtain ⟨k, hk, rfl, hown, hbel⟩ := hrel
    by_cases hlt : k < m
    · have hlx : k < n := by omega
      have hly : k < m := by omega
      obtain ⟨b, o, rfl, hc⟩ := h (by omega)
      obtain ⟨b', o', rfl, hc'⟩ := h' (by omega)
      have hcx : wr.cell? ⟨b, o + k, none⟩ = some (.int .u8 (xs.getD k 0)) := by
        rw [hbel.cell (p := ⟨b, o + k, none⟩) (World.block_lt_of_cell? w ⟨b, o + k, none⟩ (hc k hlx))]
        exact hc k hlx
      have hcy : wr.cell? ⟨b', o' + k, none⟩ = some (.int .u8 (ys.getD k 0)) := by
        rw [hbel.cell (p := ⟨b', o' + k, none⟩) (World.block_lt_of_cell? w ⟨b', o' + k, none⟩ (hc' k hly))]
        exact hc' k hly
      obtain ⟨u, hu⟩ : ∃ u, u = xs.getD k 0 := ⟨_, rfl⟩
      obtain ⟨v, hv⟩ : ∃ v, v = ys.getD k 0 := ⟨_, rfl⟩
      rw [← hu] at hcx
      rw [← hv] at hcy
      have hold : wr.cell? ⟨w.heap.size, k, none⟩ = some (.int .u8 0) := by
        rw [hown.cellAt k (by omega)]; exact fill_old _ m k hlt hl
      have hfz := hown.frozenAt k
      have hst := hown.stored k (.int .u8 (bits BinOp.xor IntKind.u8 u v))
      rw [fill_step (xorL xs ys) m k _ (xorL_getD hx hy hlx hly hu hv) hlt hl] at hst
      have hbel' := hbel.setCell (p := ⟨w.heap.size, k, none⟩) (Nat.le_refl _) (.int .u8 (bits BinOp.xor IntKind.u8 u v))
      clear hc hc' h h' hu hv
      go_wp2
      go_region
      all_goals
        go_wp2
        go_roundw
        case rel => exact ⟨k + 1, by omega, by go_num, hst.1, hbel'.drew⟩
        case measure => simp [intOf]; omega
    · have hkn : k = m := by omega
      subst hkn
      go_wp2
      go_ret
      rw [fill_end _ _ hl] at hown
      exact ⟨_, rfl, hown, hbel⟩

theorem implXor_any (p q : Option Addr) (n m c d : Nat) (xs ys : List Int) (w : World) (hn : n ≤ 1048576) (hm : m ≤ 1048576) (hx : xs.length = n) (hy : ys.length = m) (h : BytesIn w p n xs) (h' : BytesIn w q m ys) :
    Calls Altd.prog 31 #[.slice p n c, .slice q m d] w fun e w' => ∃ v, e = .returned v ∧ w'.ownsRow w.heap.size 5 1 v (min n m) ((xorL xs ys).map (Value.int .u8)) ∧ Below w.heap.size w w' := by
  by_cases hle : n ≤ m
  · rw [show min n m = n by omega]
    exact implXor_le p q n m c d xs ys w hn hm hx hy h h' hle
  · rw [show min n m = m by omega]
    exact implXor_gt p q n m c d xs ys w hn hm hx hy h h' (by omega)

theorem specXor_own (p q : Option Addr) (n m c d : Nat) (xs ys : List Int) (w : World) (hn : n ≤ 1048576) (hm : m ≤ 1048576) (hx : xs.length = n) (hy : ys.length = m) (h : BytesIn w p n xs) (h' : BytesIn w q m ys) :
    Calls Altd.prog 34 #[.slice p n c, .slice q m d] w fun e w' => ∃ p' c', e = .returned (.slice p' (min n m) c') ∧ Own 5 w' w.heap.size w'.heap.size (.slice p' (min n m) c') (min n m) (xorL xs ys) ∧ Below w.heap.size w w' := by
  refine (specXor_any p q n m c d xs ys w hn hm hx hy h h').mono fun e w' ⟨v, h1, h2, h3⟩ => ?_
  obtain ⟨p', c', rfl⟩ := owns_form h2
  exact ⟨p', c', h1, .of h2, h3⟩

end Go.Proofs.YtepbidaoloplbaaDoor.Alt

namespace Go.Proofs.YtepbidaoloplbaaDoor
open Go.RowKit
set_option maxRecDepth 100000

/-- The text behind i blocks. -/
def outS (ks : List Int) (count : Int) (ns bs : List Int) : Nat → List Int
  | 0 => []
  | i + 1 => outS ks count ns bs i ++ xorL (blkB ks (count + (i : Int)) ns) (bs.drop (64 * i))
theorem outS_length (ks : List Int) (count : Int) (ns bs : List Int) (i : Nat) : (outS ks count ns bs i).length = min (64 * i) bs.length := by
  induction i with
  | zero => simp [outS]
  | succ i ih =>
    rw [outS, List.length_append, ih, xorL_length, List.length_drop, blkB_length]
    omega
def strOk (n m k : Nat) (count : Int) : Prop := k ≤ 4000 ∧ ∀ i : Nat, 64 * i < k → blkOk n m (count + (i : Int))
open Classical in
noncomputable def strS (ks : List Int) (count : Int) (ns bs : List Int) : List Int := if strOk ks.length ns.length bs.length count then outS ks count ns bs ((bs.length + 63) / 64) else []
theorem slice_on (b j m cc l : Nat) (h : l < m) (hc : m ≤ cc) (W : World) : (Instr.slice 22 (.slice (some ⟨b, j, none⟩) m cc) (some (.int .i64 (l : Int))) none none).run Tryd.prog W = .ok (.slice (some ⟨b, j + l, none⟩) (m - l) (cc - l)) W := by
  have ht' : Tryd.prog.underlying 22 = some (.slice (Tryd.prog.elem 22)) := by simp [Program.elem, Tryd.underlying22]
  have he : Tryd.prog.elem 22 = 5 := by simp [Program.elem, Tryd.underlying22]
  obtain ⟨i0, hi, hz0, hz1, hz2⟩ := info_parts infoByte
  rw [run_slice_l W 22 _ _ _ ht' .i64 l (by omega) (by omega), he]
  simp [sizeOf, typeInfo, hi, hz1, sliced, Addr.add, show cc ≠ l by omega]

set_option maxHeartbeats 1000000 in
theorem specStr_small (p q r : Option Addr) (n m k c d f : Nat) (count : Int) (ks ns bs : List Int) (w : World) (hk : k ≤ 4000) (hf : k ≤ f) (hx : ks.length = n) (hy : ns.length = m) (hz : bs.length = k) (h : BytesIn w p n ks) (h' : BytesIn w q m ns) (h'' : BytesIn w r k bs) (hb1 : ∀ x ∈ ks, 0 ≤ x ∧ x < 256) (hb2 : ∀ x ∈ ns, 0 ≤ x ∧ x < 256) :
    Calls Tryd.prog 12 #[.slice p n c, .int .i64 count, .slice q m d, .slice r k f] w fun e w' => ∃ p' L c', e = .returned (.slice p' L c') ∧ Own 5 w' w.heap.size w'.heap.size (.slice p' L c') L (strS ks count ns bs) ∧ Below w.heap.size w w' := by
  obtain ⟨i0, hi, hz0, hz1, hz2⟩ := info_parts infoByte
  have d1 : ¬ (4000 : Int) < (k : Int) := by omega
  have hown0 : (w.alloc (.cells #[] 5)).ownsRow w.heap.size 5 1 (.slice (some ⟨w.heap.size, 0, none⟩) 0 0) 0 ((outS ks count ns bs 0).map (Value.int .u8)) := World.ownsRow_made w #[] 0 (Nat.le_refl _) (by unfold maxLen; omega) rfl
  have hb0 : Below w.heap.size w (w.alloc (.cells #[] 5)) := (Below.refl _ _).alloc (Nat.le_refl _) _
  go_enter Tryd.func12, Tryd.ntmps12
  go_wp2_with (fail)
  generalize w.alloc (.cells #[] 5) = w2 at hown0 hb0 ⊢
  go_loopw [9, 10, 1, 11] (fun v at_ cn _ wr => ∃ (i a L : Nat) (cc : Int), Hid (a = 64 * i) ∧ Hid (cc = count + (i : Int)) ∧ a < k + 64 ∧ at_ = .int .i64 a ∧ cn = .int .i64 cc ∧ wr.ownsRow w.heap.size 5 1 v L ((outS ks count ns bs i).map (Value.int .u8)) ∧ Hid (∀ i' : Nat, i' < i → blkOk n m (count + (i' : Int))) ∧ Below w.heap.size w wr)
    (fun _ at_ _ _ _ => match at_ with | .int _ z => k + 64 - z.toNat | _ => 0)
  case atStart => exact ⟨0, 0, 0, count, rfl, by rw [Hid]; simp, by omega, rfl, rfl, hown0, fun i' h => absurd h (Nat.not_lt_zero _), hb0⟩
  case round =>
    clear hown0 hb0
    obtain ⟨i, a, L, cc, ha, hcc, hak, rfl, rfl, hown, hoks, hbl⟩ := hrel
    have hszr := hbl.size
    obtain ⟨pv, cv, hv⟩ := owns_form hown
    subst hv
    by_cases hlt : a < k
    · obtain ⟨b2, o2, rfl, hcell⟩ := h'' (by omega)
      by_cases hok : blkOk n m cc
      · have CB := specBlk_any p q n m c d cc ks ns wr hx hy (in_below h hbl) (in_below h' hbl) hb1 hb2
        rw [blkN, if_pos hok, blkL, hx, hy, if_pos hok] at CB
        have hsl := slice_on b2 o2 k f a hlt hf
        have hc0 := hok.2.2.1
        have hc1 := hok.2.2.2
        have hlB := blkB_length ks cc ns
        have HX : Hid (∀ W, Below w.heap.size w W → BytesIn W (some ⟨b2, o2 + a, none⟩) (k - a) (bs.drop a)) := fun W hW _ => ⟨b2, o2 + a, rfl, fun j hj => by
          have := hcell (a + j) (by omega)
          rw [Nat.add_assoc, hW.cell (p := ⟨b2, o2 + (a + j), none⟩) (World.block_lt_of_cell? w ⟨b2, o2 + (a + j), none⟩ this), this]
          simp [List.getD]⟩
        have HO : Hid (outS ks count ns bs i ++ xorL (blkB ks cc ns) (bs.drop a) = outS ks count ns bs (i + 1)) := by rw [Hid, outS, ha.out, hcc.out]
        have hld : (bs.drop a).length = k - a := by rw [List.length_drop, hz]
        generalize blkB ks cc ns = B at CB hlB HO
        generalize bs.drop a = D at HX HO hld
        clear hcell
        go_wp2_with (fail)
        refine CB.mono ?_
        rintro e w6 ⟨p6, c6, rfl, r6, b6⟩
        clear CB
        go_wp2_with (fail)
        have bel6 : Below w.heap.size w w6 := below_on hbl b6
        refine (specXor_own p6 _ 64 (k - a) c6 (f - a) B D w6 (by omega) (by omega) hlB hld r6.bytes (HX.out w6 bel6)).mono ?_
        rintro e w7 ⟨p7, c7, rfl, r7, b7⟩
        have bel7 := below_on bel6 b7
        have hown7 := owns_below (owns_below hown b6) b7
        have hin7 := r7.bytes
        have l7 : (xorL B D).length = min 64 (k - a) := by rw [xorL_length, hlB, hld]
        have hs7 := bel7.size
        have hL : L ≤ 1048576 := by
          have h1 := owns_len hown7
          rw [outS_length, hz] at h1
          omega
        have hmin : 0 < min 64 (k - a) := by omega
        have hmax : min 64 (k - a) ≤ 64 := by omega
        have HA : Hid (a + 64 = 64 * (i + 1)) := by rw [Hid, ha.out]; omega
        have HC : Hid (cc + 1 = count + ((i + 1 : Nat) : Int)) := by rw [Hid, hcc.out]; omega
        have HK : Hid (∀ i' : Nat, i' < i + 1 → blkOk n m (count + (i' : Int))) := fun i' hi' => by
          rcases Nat.lt_or_ge i' i with h1 | h1
          · exact hoks.out i' h1
          · obtain rfl : i' = i := by omega
            rw [← hcc.out]
            exact hok
        clear hown r6 r7 b6 b7 HX hoks ha hcc hld hlB hsl bel6 hbl
        generalize min 64 (k - a) = mm at hin7 l7 hmin hmax ⊢
        go_wp2_with (at_builtin; refine list_spread hi hz0 hz1 hz2 (.tmp 31) (.tmp 36) 22 Tryd.underlying22 hown7 hin7 l7 hmin (by omega) (by omega) hs7 (by rfl) (by rfl) (by rfl) (by rfl) ?_; intro g8 cap8 w8 ho8 hg8 hb8; rw [HO.out] at ho8)
        go_roundw
        case rel => exact ⟨i + 1, a + 64, L + mm, cc + 1, HA, HC, by omega, by go_num, by go_num, ho8, HK, bel7.trans hb8⟩
        case measure => simp only; omega
      · have CB := specBlk_any p q n m c d cc ks ns wr hx hy (in_below h hbl) (in_below h' hbl) hb1 hb2
        rw [blkN, if_neg hok, blkL, hx, hy, if_neg hok] at CB
        have hno : strS ks count ns bs = [] := if_neg fun hS => hok (by
          have := hS.2 i (by rw [hz, ← ha.out]; exact hlt)
          rw [hx, hy, ← hcc.out] at this
          exact this)
        clear hcell
        go_wp2_with (fail)
        refine CB.mono ?_
        rintro e w6 ⟨p6, c6, rfl, r6, b6⟩
        have bel6 : Below w.heap.size w w6 := below_on hbl b6
        have hs6 := bel6.size
        have ho6 : (w6.alloc (.cells #[] 5)).ownsRow w.heap.size 5 1 (.slice (some ⟨w6.heap.size, 0, none⟩) 0 0) 0 (([] : List Int).map (Value.int .u8)) := World.ownsRow_made w6 #[] 0 hs6 (by unfold maxLen; omega) rfl
        clear CB
        go_wp2_with (fail)
        go_ret
        rw [hno]
        exact ⟨_, _, _, rfl, .of ho6, bel6.alloc hs6 _⟩
    · have hyes : strS ks count ns bs = outS ks count ns bs i := by
        have e1 : (bs.length + 63) / 64 = i := by
          have := ha.out
          rw [hz]
          omega
        have hS : strOk ks.length ns.length bs.length count := ⟨by rw [hz]; exact hk, fun i' hi' => by rw [hx, hy]; exact hoks.out i' (by have := ha.out; rw [hz] at hi'; omega)⟩
        rw [strS, if_pos hS, e1]
      have hnl : ¬ (a : Int) < (k : Int) := by omega
      go_wp2_with (fail)
      go_ret
      exact ⟨_, _, _, rfl, .of hown, hbl⟩

theorem specStr_any (p q r : Option Addr) (n m k c d f : Nat) (count : Int) (ks ns bs : List Int) (w : World) (hf : k ≤ f) (hx : ks.length = n) (hy : ns.length = m) (hz : bs.length = k) (h : BytesIn w p n ks) (h' : BytesIn w q m ns) (h'' : BytesIn w r k bs) (hb1 : ∀ x ∈ ks, 0 ≤ x ∧ x < 256) (hb2 : ∀ x ∈ ns, 0 ≤ x ∧ x < 256) :
    Calls Tryd.prog 12 #[.slice p n c, .int .i64 count, .slice q m d, .slice r k f] w fun e w' => ∃ p' L c', e = .returned (.slice p' L c') ∧ Own 5 w' w.heap.size w'.heap.size (.slice p' L c') L (strS ks count ns bs) ∧ Below w.heap.size w w' := by
  by_cases hk : k ≤ 4000
  · exact specStr_small p q r n m k c d f count ks ns bs w hk hf hx hy hz h h' h'' hb1 hb2
  · have hno : Hid (strS ks count ns bs = []) := if_neg fun hS => hk (by have := hS.1; omega)
    have d1 : (4000 : Int) < (k : Int) := by omega
    have hown0 : (w.alloc (.cells #[] 5)).ownsRow w.heap.size 5 1 (.slice (some ⟨w.heap.size, 0, none⟩) 0 0) 0 (([] : List Int).map (Value.int .u8)) := World.ownsRow_made w #[] 0 (Nat.le_refl _) (by unfold maxLen; omega) rfl
    have hb0 : Below w.heap.size w (w.alloc (.cells #[] 5)) := (Below.refl _ _).alloc (Nat.le_refl _) _
    go_enter Tryd.func12, Tryd.ntmps12
    go_wp2_with (fail)
    go_ret
    rw [hno.out]
    exact ⟨_, _, _, rfl, .of hown0, hb0⟩

end Go.Proofs.YtepbidaoloplbaaDoor
