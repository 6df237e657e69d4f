/-
  (*shelf).add: one more waits, behind all. Conditions: a shelf of no more than a law hands over.
-/
import Derived.Test.YtkdbcplcpcdnbaaShelf
import Derived.Test.YtkdbcplcpcdnbaaRegionT
import Derived.Test.YtkdbcplcpcdnbaaInfo
namespace Go.Proofs.Ytkdbcplcpcdnbaa
open Go.RowKit
set_option maxRecDepth 100000

theorem build_placed (k : Int) (s : ByteArray) (t d : Int) (p : Option Addr) (n c : Nat) (X : World) :
    (Instr.build 102 #[(0, .int .i64 k), (1, .agg #[.string s, .int .i64 t, .int .i64 d, .slice p n c])]).run Try.prog X = .ok (.agg #[.int .i64 k, .string s, .int .i64 t, .int .i64 d, .slice p n c]) X := by kernel_rfl
theorem build_row (k : Int) (s : ByteArray) (t d : Int) (p : Option Addr) (n c : Nat) (X : World) :
    (Instr.buildSlice 76 1 #[(0, .agg #[.int .i64 k, .string s, .int .i64 t, .int .i64 d, .slice p n c])]).run Try.prog X = .ok (.slice (some ⟨X.heap.size, 0, none⟩) 1 1) (X.alloc (.cells #[.int .i64 k, .string s, .int .i64 t, .int .i64 d, .slice p n c] 102)) := by kernel_rfl
theorem infoPlaced : (Try.prog.info? 102).map (fun i => (i.zero, i.size, i.bytes)) = some (some (.agg #[.int .i64 0, .string ByteArray.empty, .int .i64 0, .int .i64 0, .slice none 0 0]), 5, 64) := by kernel_rfl
theorem World.grownBy_refl' (w : World) (r : Option Nat) : w.grownBy w r := ⟨rfl, rfl, rfl, Nat.le_refl _, fun _ _ _ => rfl⟩

set_option maxHeartbeats 8000000 in
theorem add_any (w : World) (lo S : Nat) (L : List PIt) (nx : Int) (N : Nat) (s : ByteArray) (t d : Int) (p : Option Addr) (n c : Nat) (xs : List Int) (hs : s.size ≤ 1048576) (hN : N ≤ 1048577) (hL : L.length ≤ 1048577) (hnx : 0 ≤ nx ∧ nx ≤ 1048577) (h : Shelf w lo S L nx N) :
    Calls Try.prog 44 #[.pointer (some ⟨S, 0, none⟩), .string s, .agg #[.string s, .int .i64 t, .int .i64 d, .slice p n c]] w fun e w' => e = .returned (.tuple #[]) ∧ Shelf w' lo S (L ++ [⟨nx, ⟨s, t, d, p, n, c, xs⟩⟩]) (nx + 1) (N + 1) ∧ Below lo w w' := by
  obtain ⟨i0, hi, hz0, hz1, hz2⟩ := info_parts infoPlaced
  obtain ⟨B, nn, m, hC, hlo, hnN, hR⟩ := h
  have hSw := hC.1
  obtain ⟨w1, hw1⟩ : ∃ w1, w1 = w.alloc (.cells #[.string s, .int .i64 t, .int .i64 d, .slice p n c] 26) := ⟨_, rfl⟩
  have b1 : Below w.heap.size w w1 := by rw [hw1]; exact made_below _ _ (Below.refl _ _)
  have CX : Cells w1 w.heap.size #[.string s, .int .i64 t, .int .i64 d, .slice p n c] := by rw [hw1]; exact Cells.made _ _ _
  have hC1 := hC.on b1
  have hR1 := hR.on b1
  replace hw1 : Hid (w.alloc (.cells #[.string s, .int .i64 t, .int .i64 d, .slice p n c] 26) = w1) := hw1.symm
  obtain ⟨BX, hBX⟩ : ∃ BX, BX = w.heap.size := ⟨_, rfl⟩
  rw [← hBX] at CX
  obtain ⟨v0, hv0⟩ : ∃ v0, v0 = (m s).getD (.slice none 0 0) := ⟨_, rfl⟩
  have hrow0 := hR1.row s
  rw [← hv0] at hrow0
  replace hv0 : Hid (v0 = (m s).getD (.slice none 0 0)) := hv0
  have hv0B : some B ≠ v0.ownBlock := fun e => row_not_map hR1.map hrow0 e.symm
  have hv0S : some S ≠ v0.ownBlock := fun e => by
    cases hz : m s with
    | none => rw [hv0.out, hz] at e; simp [Value.ownBlock] at e
    | some u => rw [hv0.out, hz] at e; exact hR.off s u hz e.symm
  have hv0X : some BX ≠ v0.ownBlock := fun e => by
    have hr := hR.row s
    rw [← hv0.out] at hr
    have := (hr.lt BX e.symm).2
    omega
  have HS : ∀ X, w1.drew.grownBy X v0.ownBlock → X.cell? ⟨S, 0, none⟩ = some (.map (some B)) ∧ X.cell? ⟨S, 1, none⟩ = some (.int .i64 nx) ∧ X.cell? ⟨BX, 0, none⟩ = some (.string s) ∧ X.cell? ⟨BX, 1, none⟩ = some (.int .i64 t) ∧ X.cell? ⟨BX, 2, none⟩ = some (.int .i64 d) ∧ X.cell? ⟨BX, 3, none⟩ = some (.slice p n c) ∧ (Instr.lookup 73 (.map (some B)) (.string s) false).run Try.prog X = .ok v0 X := by
    intro X hX
    have g : w1.grownBy X v0.ownBlock := (drew_grown w1 _).trans hX
    have a1 := hC1.grown g hv0S
    have a2 := CX.grown g hv0X
    refine ⟨(a1.2 0).1, (a1.2 1).1, (a2.2 0).1, (a2.2 1).1, (a2.2 2).1, (a2.2 3).1, ?_⟩
    rw [(hR1.map.kept g hv0B).look s hs, ← hv0.out]
  have hb1 : lo ≤ w1.heap.size := by have := b1.size; omega
  have hk1 : Below lo w w1 := b1.mono (by omega)
  have hlen := ofR_len s L
  clear hC hR b1
  go_enter Try.func44, Try.ntmps44
  go_wp2_with (rw [hw1.out])
  rw [← hBX]
  clear hw1 hBX
  refine wp_region_noPanic ?_
  refine wp_region_T 19 (fun _ => True) (fun X => X.cell? ⟨S, 0, none⟩ = some (.map (some B)) ∧ X.cell? ⟨S, 1, none⟩ = some (.int .i64 nx) ∧ X.cell? ⟨BX, 0, none⟩ = some (.string s) ∧ X.cell? ⟨BX, 1, none⟩ = some (.int .i64 t) ∧ X.cell? ⟨BX, 2, none⟩ = some (.int .i64 d) ∧ X.cell? ⟨BX, 3, none⟩ = some (.slice p n c) ∧ (Instr.lookup 73 (.map (some B)) (.string s) false).run Try.prog X = .ok v0 X) (by kernel_rfl) ?_
  refine anyT_takeS (i := 0) (v := .pointer (some ⟨S, 0, none⟩)) rfl rfl (by kernel_rfl) (by kernel_rfl) (by kernel_rfl) (by kernel_rfl) (by kernel_rfl) (fun _ _ _ h => h) (Or.inl ⟨by rfl, fun X hSw => by (obtain ⟨_, q0, q1, q2, q3, q4, q5, q6⟩ := hSw; go_simp)⟩) trivial (HS _ (World.grownBy_refl' _ _)) ?_
  simp only [Act.put, List.getElem_toArray, List.getElem_cons_zero, List.setIfInBounds_toArray, List.set_cons_zero, List.set_cons_succ]
  refine anyT_takeS (i := 1) (v := .pointer (some ⟨S, 0, none⟩)) rfl rfl (by kernel_rfl) (by kernel_rfl) (by kernel_rfl) (by kernel_rfl) (by kernel_rfl) (fun _ _ _ h => h) (Or.inl ⟨by rfl, fun X hSw => by (obtain ⟨_, q0, q1, q2, q3, q4, q5, q6⟩ := hSw; go_simp)⟩) trivial (HS _ (World.grownBy_refl' _ _)) ?_
  simp only [Act.put, List.getElem_toArray, List.getElem_cons_zero, List.getElem_cons_succ, List.setIfInBounds_toArray, List.set_cons_zero, List.set_cons_succ]
  refine anyT_takeS (i := 2) (v := .pointer (some ⟨S, 0, none⟩)) rfl rfl (by kernel_rfl) (by kernel_rfl) (by kernel_rfl) (by kernel_rfl) (by kernel_rfl) (fun _ _ _ h => h) (Or.inl ⟨by rfl, fun X hSw => by (obtain ⟨_, q0, q1, q2, q3, q4, q5, q6⟩ := hSw; go_simp)⟩) trivial (HS _ (World.grownBy_refl' _ _)) ?_
  simp only [Act.put, List.getElem_toArray, List.getElem_cons_zero, List.getElem_cons_succ, List.setIfInBounds_toArray, List.set_cons_zero, List.set_cons_succ]
  refine anyT_takeS (i := 3) (v := .map (some B)) rfl rfl (by kernel_rfl) (by kernel_rfl) (by kernel_rfl) (by kernel_rfl) (by kernel_rfl) (fun _ _ _ h => h) (Or.inl ⟨by rfl, fun X hSw => by (obtain ⟨_, q0, q1, q2, q3, q4, q5, q6⟩ := hSw; go_simp)⟩) trivial (HS _ (World.grownBy_refl' _ _)) ?_
  simp only [Act.put, List.getElem_toArray, List.getElem_cons_zero, List.getElem_cons_succ, List.setIfInBounds_toArray, List.set_cons_zero, List.set_cons_succ]
  refine anyT_takeS (i := 4) (v := .string s) rfl rfl (by kernel_rfl) (by kernel_rfl) (by kernel_rfl) (by kernel_rfl) (by kernel_rfl) (fun _ _ _ h => h) (Or.inl ⟨by rfl, fun X hSw => by (obtain ⟨_, q0, q1, q2, q3, q4, q5, q6⟩ := hSw; go_simp)⟩) trivial (HS _ (World.grownBy_refl' _ _)) ?_
  simp only [Act.put, List.getElem_toArray, List.getElem_cons_zero, List.getElem_cons_succ, List.setIfInBounds_toArray, List.set_cons_zero, List.set_cons_succ]
  refine anyT_takeS (i := 5) (v := .pointer (some ⟨S, 0, none⟩)) rfl rfl (by kernel_rfl) (by kernel_rfl) (by kernel_rfl) (by kernel_rfl) (by kernel_rfl) (fun _ _ _ h => h) (Or.inl ⟨by rfl, fun X hSw => by (obtain ⟨_, q0, q1, q2, q3, q4, q5, q6⟩ := hSw; go_simp)⟩) trivial (HS _ (World.grownBy_refl' _ _)) ?_
  simp only [Act.put, List.getElem_toArray, List.getElem_cons_zero, List.getElem_cons_succ, List.setIfInBounds_toArray, List.set_cons_zero, List.set_cons_succ]
  refine anyT_takeS (i := 6) (v := .pointer (some ⟨S, 0, none⟩)) rfl rfl (by kernel_rfl) (by kernel_rfl) (by kernel_rfl) (by kernel_rfl) (by kernel_rfl) (fun _ _ _ h => h) (Or.inl ⟨by rfl, fun X hSw => by (obtain ⟨_, q0, q1, q2, q3, q4, q5, q6⟩ := hSw; go_simp)⟩) trivial (HS _ (World.grownBy_refl' _ _)) ?_
  simp only [Act.put, List.getElem_toArray, List.getElem_cons_zero, List.getElem_cons_succ, List.setIfInBounds_toArray, List.set_cons_zero, List.set_cons_succ]
  refine anyT_takeS (i := 7) (v := .pointer (some ⟨S, 0, none⟩)) rfl rfl (by kernel_rfl) (by kernel_rfl) (by kernel_rfl) (by kernel_rfl) (by kernel_rfl) (fun _ _ _ h => h) (Or.inl ⟨by rfl, fun X hSw => by (obtain ⟨_, q0, q1, q2, q3, q4, q5, q6⟩ := hSw; go_simp)⟩) trivial (HS _ (World.grownBy_refl' _ _)) ?_
  simp only [Act.put, List.getElem_toArray, List.getElem_cons_zero, List.getElem_cons_succ, List.setIfInBounds_toArray, List.set_cons_zero, List.set_cons_succ]
  refine anyT_takeS (i := 8) (v := .map (some B)) rfl rfl (by kernel_rfl) (by kernel_rfl) (by kernel_rfl) (by kernel_rfl) (by kernel_rfl) (fun _ _ _ h => h) (Or.inl ⟨by rfl, fun X hSw => by (obtain ⟨_, q0, q1, q2, q3, q4, q5, q6⟩ := hSw; go_simp)⟩) trivial (HS _ (World.grownBy_refl' _ _)) ?_
  simp only [Act.put, List.getElem_toArray, List.getElem_cons_zero, List.getElem_cons_succ, List.setIfInBounds_toArray, List.set_cons_zero, List.set_cons_succ]
  refine anyT_takeS (i := 9) (v := .string s) rfl rfl (by kernel_rfl) (by kernel_rfl) (by kernel_rfl) (by kernel_rfl) (by kernel_rfl) (fun _ _ _ h => h) (Or.inl ⟨by rfl, fun X hSw => by (obtain ⟨_, q0, q1, q2, q3, q4, q5, q6⟩ := hSw; go_simp)⟩) trivial (HS _ (World.grownBy_refl' _ _)) ?_
  simp only [Act.put, List.getElem_toArray, List.getElem_cons_zero, List.getElem_cons_succ, List.setIfInBounds_toArray, List.set_cons_zero, List.set_cons_succ]
  refine anyT_takeS (i := 10) (v := v0) rfl rfl (by kernel_rfl) (by kernel_rfl) (by kernel_rfl) (by kernel_rfl) (by kernel_rfl) (fun _ _ _ h => h) (Or.inl ⟨by rfl, fun X hSw => by (obtain ⟨_, q0, q1, q2, q3, q4, q5, q6⟩ := hSw; simp [execOp, Act.eval, q6, Result.andThen])⟩) trivial (HS _ (World.grownBy_refl' _ _)) ?_
  simp only [Act.put, List.getElem_toArray, List.getElem_cons_zero, List.getElem_cons_succ, List.setIfInBounds_toArray, List.set_cons_zero, List.set_cons_succ]
  refine anyT_takeS (i := 11) (v := .pointer (some ⟨S, 0, none⟩)) rfl rfl (by kernel_rfl) (by kernel_rfl) (by kernel_rfl) (by kernel_rfl) (by kernel_rfl) (fun _ _ _ h => h) (Or.inl ⟨by rfl, fun X hSw => by (obtain ⟨_, q0, q1, q2, q3, q4, q5, q6⟩ := hSw; go_simp)⟩) trivial (HS _ (World.grownBy_refl' _ _)) ?_
  simp only [Act.put, List.getElem_toArray, List.getElem_cons_zero, List.getElem_cons_succ, List.setIfInBounds_toArray, List.set_cons_zero, List.set_cons_succ]
  refine anyT_takeS (i := 12) (v := .pointer (some ⟨S, 0, none⟩)) rfl rfl (by kernel_rfl) (by kernel_rfl) (by kernel_rfl) (by kernel_rfl) (by kernel_rfl) (fun _ _ _ h => h) (Or.inl ⟨by rfl, fun X hSw => by (obtain ⟨_, q0, q1, q2, q3, q4, q5, q6⟩ := hSw; go_simp)⟩) trivial (HS _ (World.grownBy_refl' _ _)) ?_
  simp only [Act.put, List.getElem_toArray, List.getElem_cons_zero, List.getElem_cons_succ, List.setIfInBounds_toArray, List.set_cons_zero, List.set_cons_succ]
  refine anyT_takeS (i := 13) (v := .pointer (some ⟨S, 1, none⟩)) rfl rfl (by kernel_rfl) (by kernel_rfl) (by kernel_rfl) (by kernel_rfl) (by kernel_rfl) (fun _ _ _ h => h) (Or.inl ⟨by rfl, fun X hSw => by (obtain ⟨_, q0, q1, q2, q3, q4, q5, q6⟩ := hSw; go_simp)⟩) trivial (HS _ (World.grownBy_refl' _ _)) ?_
  simp only [Act.put, List.getElem_toArray, List.getElem_cons_zero, List.getElem_cons_succ, List.setIfInBounds_toArray, List.set_cons_zero, List.set_cons_succ]
  refine anyT_takeS (i := 14) (v := .int .i64 nx) rfl rfl (by kernel_rfl) (by kernel_rfl) (by kernel_rfl) (by kernel_rfl) (by kernel_rfl) (fun _ _ _ h => h) (Or.inl ⟨by rfl, fun X hSw => by (obtain ⟨_, q0, q1, q2, q3, q4, q5, q6⟩ := hSw; go_simp)⟩) trivial (HS _ (World.grownBy_refl' _ _)) ?_
  simp only [Act.put, List.getElem_toArray, List.getElem_cons_zero, List.getElem_cons_succ, List.setIfInBounds_toArray, List.set_cons_zero, List.set_cons_succ]
  refine anyT_takeS (i := 15) (v := .agg #[.string s, .int .i64 t, .int .i64 d, .slice p n c]) rfl rfl (by kernel_rfl) (by kernel_rfl) (by kernel_rfl) (by kernel_rfl) (by kernel_rfl) (fun _ _ _ h => h) (Or.inl ⟨by rfl, fun X hSw => by (obtain ⟨_, q0, q1, q2, q3, q4, q5, q6⟩ := hSw; go_simp)⟩) trivial (HS _ (World.grownBy_refl' _ _)) ?_
  simp only [Act.put, List.getElem_toArray, List.getElem_cons_zero, List.getElem_cons_succ, List.setIfInBounds_toArray, List.set_cons_zero, List.set_cons_succ]
  refine anyT_takeS (i := 16) (v := .agg #[.int .i64 nx, .string s, .int .i64 t, .int .i64 d, .slice p n c]) rfl rfl (by kernel_rfl) (by kernel_rfl) (by kernel_rfl) (by kernel_rfl) (by kernel_rfl) (fun _ _ _ h => h) (Or.inl ⟨by rfl, fun X hSw => by (obtain ⟨_, q0, q1, q2, q3, q4, q5, q6⟩ := hSw; simp [execOp, Act.eval, build_placed, Result.andThen])⟩) trivial (HS _ (World.grownBy_refl' _ _)) ?_
  simp only [Act.put, List.getElem_toArray, List.getElem_cons_zero, List.getElem_cons_succ, List.setIfInBounds_toArray, List.set_cons_zero, List.set_cons_succ]
  refine anyT_one (i := 17) (by kernel_rfl) rfl (fun K hK => ?_)
  have hbr := build_row nx s t d p n c w1.drew
  obtain ⟨W3, hW3⟩ : ∃ W3, W3 = (w1.alloc (.cells #[.int .i64 nx, .string s, .int .i64 t, .int .i64 d, .slice p n c] 102)).drew := ⟨_, rfl⟩
  have g3 : w1.drew.grownBy W3 v0.ownBlock := by rw [hW3]; exact World.grownBy_alloc w1.drew _ _
  have g13 : w1.grownBy W3 v0.ownBlock := (drew_grown w1 _).trans g3
  have C3 : Cells W3 w1.heap.size #[.int .i64 nx, .string s, .int .i64 t, .int .i64 d, .slice p n c] := by rw [hW3]; exact Cells.made w1.drew _ _
  have r3 : W3.ownsRow lo 102 5 v0 (ofR s L).length (flatP (ofR s L)) := by rw [hW3]; exact hrow0.alloc _
  have z3 : w1.heap.size < W3.heap.size := C3.1
  replace hW3 : Hid ((w1.alloc (.cells #[.int .i64 nx, .string s, .int .i64 t, .int .i64 d, .slice p n c] 102)).drew = W3) := hW3.symm
  go_simp
  rw [hW3.out]
  refine hK.out _ _ trivial (fun _ => HS _ g3) ?_
  clear hK K hbr hW3
  refine anyT_one (i := 18) (by kernel_rfl) rfl (fun K hK => ?_)
  refine step_append_lies _ rfl _ _ 76 rfl lo 102 i0 _ 5 64 Try.underlying76 hi hz0 hz1 hz2 rfl (by decide) v0 (ofR s L).length (flatP (ofR s L)) rfl r3 ⟨w1.heap.size, 0, none⟩ 1 1 (PIt.vals ⟨nx, ⟨s, t, d, p, n, c, xs⟩⟩) rfl rfl (fun j u hj => ?news) (fun u hu => flatP_one [⟨nx, ⟨s, t, d, p, n, c, xs⟩⟩] u (by simpa [flatP] using hu)) (by decide) (by unfold maxLen; omega) (by omega) (by omega) W3.heap.size rfl ?_
  case news =>
    rw [Addr.add_lit, Nat.zero_add, (C3.2 j).1]
    simpa [PIt.vals, ItA.vals] using hj
  intro g4 c4 W4 r4 hg4 hl4 hgl4
  have gg : w1.drew.grownBy W4 v0.ownBlock := g3.trans hg4
  have g14 : w1.grownBy W4 v0.ownBlock := g13.trans hg4
  refine hK.out _ _ trivial (fun _ => HS _ gg) ?_
  clear hK K
  simp only [Act.put, List.getElem_toArray, List.getElem_cons_zero, List.getElem_cons_succ, List.setIfInBounds_toArray, List.set_cons_zero, List.set_cons_succ]
  refine anyT_one (i := 19) (by kernel_rfl) rfl (fun K hK => ?_)
  obtain ⟨W5, hst, hM5, ht5⟩ := (hR1.map.kept g14 hv0B).store s hs (by omega) (.slice (some ⟨g4, 0, none⟩) ((ofR s L).length + 1) c4)
  have hloc : ((m s).getD (.slice none 0 0)).ownBlock = (Value.slice (some ⟨g4, 0, none⟩) ((ofR s L).length + 1) c4).ownBlock ∨ ∃ g, (Value.slice (some ⟨g4, 0, none⟩) ((ofR s L).length + 1) c4).ownBlock = some g ∧ w1.heap.size ≤ g := by
    rw [← hv0.out]
    rcases hl4 with e | e
    · exact .inl e
    · exact .inr ⟨g4, rfl, by omega⟩
  have hR5 := hR1.add (z := ⟨nx, ⟨s, t, d, p, n, c, xs⟩⟩) (v' := .slice (some ⟨g4, 0, none⟩) ((ofR s L).length + 1) c4) (by rw [← hv0.out]; exact g14) hC1.1 r4 hloc hM5 ht5.grown
  have hC5 := (hC1.grown g14 hv0S).grown ht5.grown (fun e => by simp only [Option.some.injEq] at e; exact cells_not_map hR1.map hC1 (by simp) e.symm)
  have hk5 : Below lo w W5 := (hk1.grown g14 hb1 (fun k hk => (hrow0.lt k hk).1)).grown ht5.grown (Nat.le_trans hb1 g14.size) (fun k hk => by cases hk; exact hR1.loB)
  clear HS hR1 hC1 CX C3 r3 r4 hM5 g3 g13 gg g14 hg4 hloc hl4 ht5 hrow0 hk1 hb1
  go_simp
  refine hK.out _ _ trivial (fun e => by cases e) ?_
  clear hK K
  refine anyT_done (by kernel_rfl) ?_ _
  refine NoPanic.normal ?_
  have e1 : W5.cell? ⟨S, 1, none⟩ = some (.int .i64 nx) := (hC5.2 1).1
  have f1 := (hC5.2 1).2
  have hC6 := hC5.set 1 (by simp) (.int .i64 (nx + 1))
  have hR6 := hR5.kept (set_grown W5 S 1 (.int .i64 (nx + 1))) (fun e => by simp only [Option.some.injEq] at e; exact cells_not_map hR5.map hC5 (by simp) e) (fun y u hu => hR5.off y u hu)
  have hk6 := hk5.setCell (p := ⟨S, 1, none⟩) hlo (.int .i64 (nx + 1))
  clear hR5 hk5
  go_wp2_with (fail)
  first | go_end0 | (simp only [Exit.inBlock, Exit.then]; refine bodyPost_ret (results_none rfl _ _ _) rfl ?_) | refine bodyPost_ret (results_none rfl _ _ _) rfl ?_
  exact ⟨rfl, ⟨B, nn + 1, _, hC6, hlo, by omega, hR6⟩, hk6⟩

end Go.Proofs.Ytkdbcplcpcdnbaa
