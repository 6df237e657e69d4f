/-
  (*shelf).add: one more waits, behind all. Conditions: a shelf of no more than a law hands over.
  shelved: the items of a queue, in their order, by route. Conditions: items that lie there, as many as a law hands over.
  Whether a row of a shelf is right: the closure that asks for a topic, the library's search, rowOk. Conditions: a row that lies there.
  Whether a queue is right, as the program tells it: its items, then each row of its shelf, whatever the order of the map. Conditions: items that lie there, as many as a law hands over.
  Whether a queue is right, of one item more than a law hands over, as both sides say it. Conditions: items that lie there.
-/
import Derived.Test.YthfnechcddmjkaaGreatDoorPar15
import Derived.Test.YthfnechcddmjkaaGreatDoorPar16
import Derived.Test.YthfnechcddmjkaaGreatDoorPar02
import Derived.Test.YthfnechcddmjkaaGreatDoorPar18
namespace Go.Proofs.YthfnechcddmjkaaGreatDoor
open Go.RowKit
set_option maxRecDepth 100000

theorem build_placed (k : Int) (s : ByteArray) (t d : Int) (p : Option Addr) (n c : Nat) (X : World) :
    (Instr.build 199 #[(0, .int .i64 k), (1, .agg #[.string s, .int .i64 t, .int .i64 d, .slice p n c])]).run Tryz.prog X = .ok (.agg #[.int .i64 k, .string s, .int .i64 t, .int .i64 d, .slice p n c]) X := by kernel_rfl
theorem build_row (k : Int) (s : ByteArray) (t d : Int) (p : Option Addr) (n c : Nat) (X : World) :
    (Instr.buildSlice 161 1 #[(0, .agg #[.int .i64 k, .string s, .int .i64 t, .int .i64 d, .slice p n c])]).run Tryz.prog X = .ok (.slice (some ⟨X.heap.size, 0, none⟩) 1 1) (X.alloc (.cells #[.int .i64 k, .string s, .int .i64 t, .int .i64 d, .slice p n c] 199)) := by kernel_rfl
theorem infoPlaced : (Tryz.prog.info? 199).map (fun i => (i.zero, i.size, i.bytes)) = some (some (.agg #[.int .i64 0, .string ByteArray.empty, .int .i64 0, .int .i64 0, .slice none 0 0]), 5, 64) := by kernel_rfl
theorem World.grownBy_refl' (w : World) (r : Option Nat) : w.grownBy w r := ⟨rfl, rfl, rfl, Nat.le_refl _, fun _ _ _ => rfl⟩

set_option maxHeartbeats 8000000 in
theorem add_any (w : World) (lo S : Nat) (L : List PIt) (nx : Int) (N : Nat) (s : ByteArray) (t d : Int) (p : Option Addr) (n c : Nat) (xs : List Int) (hs : s.size ≤ 1048576) (hN : N ≤ 1048577) (hL : L.length ≤ 1048577) (hnx : 0 ≤ nx ∧ nx ≤ 1048577) (h : Shelf w lo S L nx N) :
    Calls Tryz.prog 155 #[.pointer (some ⟨S, 0, none⟩), .string s, .agg #[.string s, .int .i64 t, .int .i64 d, .slice p n c]] w fun e w' => e = .returned (.tuple #[]) ∧ Shelf w' lo S (L ++ [⟨nx, ⟨s, t, d, p, n, c, xs⟩⟩]) (nx + 1) (N + 1) ∧ Below lo w w' := by
  obtain ⟨i0, hi, hz0, hz1, hz2⟩ := info_parts infoPlaced
  obtain ⟨B, nn, m, hC, hlo, hnN, hR⟩ := h
  have hSw := hC.1
  obtain ⟨w1, hw1⟩ : ∃ w1, w1 = w.alloc (.cells #[.string s, .int .i64 t, .int .i64 d, .slice p n c] 84) := ⟨_, rfl⟩
  have b1 : Below w.heap.size w w1 := by rw [hw1]; exact made_below _ _ (Below.refl _ _)
  have CX : Cells w1 w.heap.size #[.string s, .int .i64 t, .int .i64 d, .slice p n c] := by rw [hw1]; exact Cells.made _ _ _
  have hC1 := hC.on b1
  have hR1 := hR.on b1
  replace hw1 : Hid (w.alloc (.cells #[.string s, .int .i64 t, .int .i64 d, .slice p n c] 84) = w1) := hw1.symm
  obtain ⟨BX, hBX⟩ : ∃ BX, BX = w.heap.size := ⟨_, rfl⟩
  rw [← hBX] at CX
  obtain ⟨v0, hv0⟩ : ∃ v0, v0 = (m s).getD (.slice none 0 0) := ⟨_, rfl⟩
  have hrow0 := hR1.row s
  rw [← hv0] at hrow0
  replace hv0 : Hid (v0 = (m s).getD (.slice none 0 0)) := hv0
  have hv0B : some B ≠ v0.ownBlock := fun e => row_not_map hR1.map hrow0 e.symm
  have hv0S : some S ≠ v0.ownBlock := fun e => by
    cases hz : m s with
    | none => rw [hv0.out, hz] at e; simp [Value.ownBlock] at e
    | some u => rw [hv0.out, hz] at e; exact hR.off s u hz e.symm
  have hv0X : some BX ≠ v0.ownBlock := fun e => by
    have hr := hR.row s
    rw [← hv0.out] at hr
    have := (hr.lt BX e.symm).2
    omega
  have HS : ∀ X, w1.drew.grownBy X v0.ownBlock → X.cell? ⟨S, 0, none⟩ = some (.map (some B)) ∧ X.cell? ⟨S, 1, none⟩ = some (.int .i64 nx) ∧ X.cell? ⟨BX, 0, none⟩ = some (.string s) ∧ X.cell? ⟨BX, 1, none⟩ = some (.int .i64 t) ∧ X.cell? ⟨BX, 2, none⟩ = some (.int .i64 d) ∧ X.cell? ⟨BX, 3, none⟩ = some (.slice p n c) ∧ (Instr.lookup 156 (.map (some B)) (.string s) false).run Tryz.prog X = .ok v0 X := by
    intro X hX
    have g : w1.grownBy X v0.ownBlock := (drew_grown w1 _).trans hX
    have a1 := hC1.grown g hv0S
    have a2 := CX.grown g hv0X
    refine ⟨(a1.2 0).1, (a1.2 1).1, (a2.2 0).1, (a2.2 1).1, (a2.2 2).1, (a2.2 3).1, ?_⟩
    rw [(hR1.map.kept g hv0B).look s hs, ← hv0.out]
  have hb1 : lo ≤ w1.heap.size := by have := b1.size; omega
  have hk1 : Below lo w w1 := b1.mono (by omega)
  have hlen := ofR_len s L
  clear hC hR b1
  go_enter Tryz.func155, Tryz.ntmps155
  go_wp2_with (rw [hw1.out])
  rw [← hBX]
  clear hw1 hBX
  refine wp_region_noPanic ?_
  refine wp_region_T 19 (fun _ => True) (fun X => X.cell? ⟨S, 0, none⟩ = some (.map (some B)) ∧ X.cell? ⟨S, 1, none⟩ = some (.int .i64 nx) ∧ X.cell? ⟨BX, 0, none⟩ = some (.string s) ∧ X.cell? ⟨BX, 1, none⟩ = some (.int .i64 t) ∧ X.cell? ⟨BX, 2, none⟩ = some (.int .i64 d) ∧ X.cell? ⟨BX, 3, none⟩ = some (.slice p n c) ∧ (Instr.lookup 156 (.map (some B)) (.string s) false).run Tryz.prog X = .ok v0 X) (by kernel_rfl) ?_
  refine anyT_takeS (i := 0) (v := .pointer (some ⟨S, 0, none⟩)) rfl rfl (by kernel_rfl) (by kernel_rfl) (by kernel_rfl) (by kernel_rfl) (by kernel_rfl) (fun _ _ _ h => h) (Or.inl ⟨by rfl, fun X hSw => by (obtain ⟨_, q0, q1, q2, q3, q4, q5, q6⟩ := hSw; go_simp)⟩) trivial (HS _ (World.grownBy_refl' _ _)) ?_
  simp only [Act.put, List.getElem_toArray, List.getElem_cons_zero, List.setIfInBounds_toArray, List.set_cons_zero, List.set_cons_succ]
  refine anyT_takeS (i := 1) (v := .pointer (some ⟨S, 0, none⟩)) rfl rfl (by kernel_rfl) (by kernel_rfl) (by kernel_rfl) (by kernel_rfl) (by kernel_rfl) (fun _ _ _ h => h) (Or.inl ⟨by rfl, fun X hSw => by (obtain ⟨_, q0, q1, q2, q3, q4, q5, q6⟩ := hSw; go_simp)⟩) trivial (HS _ (World.grownBy_refl' _ _)) ?_
  simp only [Act.put, List.getElem_toArray, List.getElem_cons_zero, List.getElem_cons_succ, List.setIfInBounds_toArray, List.set_cons_zero, List.set_cons_succ]
  refine anyT_takeS (i := 2) (v := .pointer (some ⟨S, 0, none⟩)) rfl rfl (by kernel_rfl) (by kernel_rfl) (by kernel_rfl) (by kernel_rfl) (by kernel_rfl) (fun _ _ _ h => h) (Or.inl ⟨by rfl, fun X hSw => by (obtain ⟨_, q0, q1, q2, q3, q4, q5, q6⟩ := hSw; go_simp)⟩) trivial (HS _ (World.grownBy_refl' _ _)) ?_
  simp only [Act.put, List.getElem_toArray, List.getElem_cons_zero, List.getElem_cons_succ, List.setIfInBounds_toArray, List.set_cons_zero, List.set_cons_succ]
  refine anyT_takeS (i := 3) (v := .map (some B)) rfl rfl (by kernel_rfl) (by kernel_rfl) (by kernel_rfl) (by kernel_rfl) (by kernel_rfl) (fun _ _ _ h => h) (Or.inl ⟨by rfl, fun X hSw => by (obtain ⟨_, q0, q1, q2, q3, q4, q5, q6⟩ := hSw; go_simp)⟩) trivial (HS _ (World.grownBy_refl' _ _)) ?_
  simp only [Act.put, List.getElem_toArray, List.getElem_cons_zero, List.getElem_cons_succ, List.setIfInBounds_toArray, List.set_cons_zero, List.set_cons_succ]
  refine anyT_takeS (i := 4) (v := .string s) rfl rfl (by kernel_rfl) (by kernel_rfl) (by kernel_rfl) (by kernel_rfl) (by kernel_rfl) (fun _ _ _ h => h) (Or.inl ⟨by rfl, fun X hSw => by (obtain ⟨_, q0, q1, q2, q3, q4, q5, q6⟩ := hSw; go_simp)⟩) trivial (HS _ (World.grownBy_refl' _ _)) ?_
  simp only [Act.put, List.getElem_toArray, List.getElem_cons_zero, List.getElem_cons_succ, List.setIfInBounds_toArray, List.set_cons_zero, List.set_cons_succ]
  refine anyT_takeS (i := 5) (v := .pointer (some ⟨S, 0, none⟩)) rfl rfl (by kernel_rfl) (by kernel_rfl) (by kernel_rfl) (by kernel_rfl) (by kernel_rfl) (fun _ _ _ h => h) (Or.inl ⟨by rfl, fun X hSw => by (obtain ⟨_, q0, q1, q2, q3, q4, q5, q6⟩ := hSw; go_simp)⟩) trivial (HS _ (World.grownBy_refl' _ _)) ?_
  simp only [Act.put, List.getElem_toArray, List.getElem_cons_zero, List.getElem_cons_succ, List.setIfInBounds_toArray, List.set_cons_zero, List.set_cons_succ]
  refine anyT_takeS (i := 6) (v := .pointer (some ⟨S, 0, none⟩)) rfl rfl (by kernel_rfl) (by kernel_rfl) (by kernel_rfl) (by kernel_rfl) (by kernel_rfl) (fun _ _ _ h => h) (Or.inl ⟨by rfl, fun X hSw => by (obtain ⟨_, q0, q1, q2, q3, q4, q5, q6⟩ := hSw; go_simp)⟩) trivial (HS _ (World.grownBy_refl' _ _)) ?_
  simp only [Act.put, List.getElem_toArray, List.getElem_cons_zero, List.getElem_cons_succ, List.setIfInBounds_toArray, List.set_cons_zero, List.set_cons_succ]
  refine anyT_takeS (i := 7) (v := .pointer (some ⟨S, 0, none⟩)) rfl rfl (by kernel_rfl) (by kernel_rfl) (by kernel_rfl) (by kernel_rfl) (by kernel_rfl) (fun _ _ _ h => h) (Or.inl ⟨by rfl, fun X hSw => by (obtain ⟨_, q0, q1, q2, q3, q4, q5, q6⟩ := hSw; go_simp)⟩) trivial (HS _ (World.grownBy_refl' _ _)) ?_
  simp only [Act.put, List.getElem_toArray, List.getElem_cons_zero, List.getElem_cons_succ, List.setIfInBounds_toArray, List.set_cons_zero, List.set_cons_succ]
  refine anyT_takeS (i := 8) (v := .map (some B)) rfl rfl (by kernel_rfl) (by kernel_rfl) (by kernel_rfl) (by kernel_rfl) (by kernel_rfl) (fun _ _ _ h => h) (Or.inl ⟨by rfl, fun X hSw => by (obtain ⟨_, q0, q1, q2, q3, q4, q5, q6⟩ := hSw; go_simp)⟩) trivial (HS _ (World.grownBy_refl' _ _)) ?_
  simp only [Act.put, List.getElem_toArray, List.getElem_cons_zero, List.getElem_cons_succ, List.setIfInBounds_toArray, List.set_cons_zero, List.set_cons_succ]
  refine anyT_takeS (i := 9) (v := .string s) rfl rfl (by kernel_rfl) (by kernel_rfl) (by kernel_rfl) (by kernel_rfl) (by kernel_rfl) (fun _ _ _ h => h) (Or.inl ⟨by rfl, fun X hSw => by (obtain ⟨_, q0, q1, q2, q3, q4, q5, q6⟩ := hSw; go_simp)⟩) trivial (HS _ (World.grownBy_refl' _ _)) ?_
  simp only [Act.put, List.getElem_toArray, List.getElem_cons_zero, List.getElem_cons_succ, List.setIfInBounds_toArray, List.set_cons_zero, List.set_cons_succ]
  refine anyT_takeS (i := 10) (v := v0) rfl rfl (by kernel_rfl) (by kernel_rfl) (by kernel_rfl) (by kernel_rfl) (by kernel_rfl) (fun _ _ _ h => h) (Or.inl ⟨by rfl, fun X hSw => by (obtain ⟨_, q0, q1, q2, q3, q4, q5, q6⟩ := hSw; simp [execOp, Act.eval, q6, Result.andThen])⟩) trivial (HS _ (World.grownBy_refl' _ _)) ?_
  simp only [Act.put, List.getElem_toArray, List.getElem_cons_zero, List.getElem_cons_succ, List.setIfInBounds_toArray, List.set_cons_zero, List.set_cons_succ]
  refine anyT_takeS (i := 11) (v := .pointer (some ⟨S, 0, none⟩)) rfl rfl (by kernel_rfl) (by kernel_rfl) (by kernel_rfl) (by kernel_rfl) (by kernel_rfl) (fun _ _ _ h => h) (Or.inl ⟨by rfl, fun X hSw => by (obtain ⟨_, q0, q1, q2, q3, q4, q5, q6⟩ := hSw; go_simp)⟩) trivial (HS _ (World.grownBy_refl' _ _)) ?_
  simp only [Act.put, List.getElem_toArray, List.getElem_cons_zero, List.getElem_cons_succ, List.setIfInBounds_toArray, List.set_cons_zero, List.set_cons_succ]
  refine anyT_takeS (i := 12) (v := .pointer (some ⟨S, 0, none⟩)) rfl rfl (by kernel_rfl) (by kernel_rfl) (by kernel_rfl) (by kernel_rfl) (by kernel_rfl) (fun _ _ _ h => h) (Or.inl ⟨by rfl, fun X hSw => by (obtain ⟨_, q0, q1, q2, q3, q4, q5, q6⟩ := hSw; go_simp)⟩) trivial (HS _ (World.grownBy_refl' _ _)) ?_
  simp only [Act.put, List.getElem_toArray, List.getElem_cons_zero, List.getElem_cons_succ, List.setIfInBounds_toArray, List.set_cons_zero, List.set_cons_succ]
  refine anyT_takeS (i := 13) (v := .pointer (some ⟨S, 1, none⟩)) rfl rfl (by kernel_rfl) (by kernel_rfl) (by kernel_rfl) (by kernel_rfl) (by kernel_rfl) (fun _ _ _ h => h) (Or.inl ⟨by rfl, fun X hSw => by (obtain ⟨_, q0, q1, q2, q3, q4, q5, q6⟩ := hSw; go_simp)⟩) trivial (HS _ (World.grownBy_refl' _ _)) ?_
  simp only [Act.put, List.getElem_toArray, List.getElem_cons_zero, List.getElem_cons_succ, List.setIfInBounds_toArray, List.set_cons_zero, List.set_cons_succ]
  refine anyT_takeS (i := 14) (v := .int .i64 nx) rfl rfl (by kernel_rfl) (by kernel_rfl) (by kernel_rfl) (by kernel_rfl) (by kernel_rfl) (fun _ _ _ h => h) (Or.inl ⟨by rfl, fun X hSw => by (obtain ⟨_, q0, q1, q2, q3, q4, q5, q6⟩ := hSw; go_simp)⟩) trivial (HS _ (World.grownBy_refl' _ _)) ?_
  simp only [Act.put, List.getElem_toArray, List.getElem_cons_zero, List.getElem_cons_succ, List.setIfInBounds_toArray, List.set_cons_zero, List.set_cons_succ]
  refine anyT_takeS (i := 15) (v := .agg #[.string s, .int .i64 t, .int .i64 d, .slice p n c]) rfl rfl (by kernel_rfl) (by kernel_rfl) (by kernel_rfl) (by kernel_rfl) (by kernel_rfl) (fun _ _ _ h => h) (Or.inl ⟨by rfl, fun X hSw => by (obtain ⟨_, q0, q1, q2, q3, q4, q5, q6⟩ := hSw; go_simp)⟩) trivial (HS _ (World.grownBy_refl' _ _)) ?_
  simp only [Act.put, List.getElem_toArray, List.getElem_cons_zero, List.getElem_cons_succ, List.setIfInBounds_toArray, List.set_cons_zero, List.set_cons_succ]
  refine anyT_takeS (i := 16) (v := .agg #[.int .i64 nx, .string s, .int .i64 t, .int .i64 d, .slice p n c]) rfl rfl (by kernel_rfl) (by kernel_rfl) (by kernel_rfl) (by kernel_rfl) (by kernel_rfl) (fun _ _ _ h => h) (Or.inl ⟨by rfl, fun X hSw => by (obtain ⟨_, q0, q1, q2, q3, q4, q5, q6⟩ := hSw; simp [execOp, Act.eval, build_placed, Result.andThen])⟩) trivial (HS _ (World.grownBy_refl' _ _)) ?_
  simp only [Act.put, List.getElem_toArray, List.getElem_cons_zero, List.getElem_cons_succ, List.setIfInBounds_toArray, List.set_cons_zero, List.set_cons_succ]
  refine anyT_one (i := 17) (by kernel_rfl) rfl (fun K hK => ?_)
  have hbr := build_row nx s t d p n c w1.drew
  obtain ⟨W3, hW3⟩ : ∃ W3, W3 = (w1.alloc (.cells #[.int .i64 nx, .string s, .int .i64 t, .int .i64 d, .slice p n c] 199)).drew := ⟨_, rfl⟩
  have g3 : w1.drew.grownBy W3 v0.ownBlock := by rw [hW3]; exact World.grownBy_alloc w1.drew _ _
  have g13 : w1.grownBy W3 v0.ownBlock := (drew_grown w1 _).trans g3
  have C3 : Cells W3 w1.heap.size #[.int .i64 nx, .string s, .int .i64 t, .int .i64 d, .slice p n c] := by rw [hW3]; exact Cells.made w1.drew _ _
  have r3 : W3.ownsRow lo 199 5 v0 (ofR s L).length (flatP (ofR s L)) := by rw [hW3]; exact hrow0.alloc _
  have z3 : w1.heap.size < W3.heap.size := C3.1
  replace hW3 : Hid ((w1.alloc (.cells #[.int .i64 nx, .string s, .int .i64 t, .int .i64 d, .slice p n c] 199)).drew = W3) := hW3.symm
  go_simp
  rw [hW3.out]
  refine hK.out _ _ trivial (fun _ => HS _ g3) ?_
  clear hK K hbr hW3
  refine anyT_one (i := 18) (by kernel_rfl) rfl (fun K hK => ?_)
  refine step_append_lies _ rfl _ _ 161 rfl lo 199 i0 _ 5 64 Tryz.underlying161 hi hz0 hz1 hz2 rfl (by decide) v0 (ofR s L).length (flatP (ofR s L)) rfl r3 ⟨w1.heap.size, 0, none⟩ 1 1 (PIt.vals ⟨nx, ⟨s, t, d, p, n, c, xs⟩⟩) rfl rfl (fun j u hj => ?news) (fun u hu => flatP_one [⟨nx, ⟨s, t, d, p, n, c, xs⟩⟩] u (by simpa [flatP] using hu)) (by decide) (by unfold maxLen; omega) (by omega) (by omega) W3.heap.size rfl ?_
  case news =>
    rw [Addr.add_lit, Nat.zero_add, (C3.2 j).1]
    simpa [PIt.vals, ItA.vals] using hj
  intro g4 c4 W4 r4 hg4 hl4 hgl4
  have gg : w1.drew.grownBy W4 v0.ownBlock := g3.trans hg4
  have g14 : w1.grownBy W4 v0.ownBlock := g13.trans hg4
  refine hK.out _ _ trivial (fun _ => HS _ gg) ?_
  clear hK K
  simp only [Act.put, List.getElem_toArray, List.getElem_cons_zero, List.getElem_cons_succ, List.setIfInBounds_toArray, List.set_cons_zero, List.set_cons_succ]
  refine anyT_one (i := 19) (by kernel_rfl) rfl (fun K hK => ?_)
  obtain ⟨W5, hst, hM5, ht5⟩ := (hR1.map.kept g14 hv0B).store s hs (by omega) (.slice (some ⟨g4, 0, none⟩) ((ofR s L).length + 1) c4)
  have hloc : ((m s).getD (.slice none 0 0)).ownBlock = (Value.slice (some ⟨g4, 0, none⟩) ((ofR s L).length + 1) c4).ownBlock ∨ ∃ g, (Value.slice (some ⟨g4, 0, none⟩) ((ofR s L).length + 1) c4).ownBlock = some g ∧ w1.heap.size ≤ g := by
    rw [← hv0.out]
    rcases hl4 with e | e
    · exact .inl e
    · exact .inr ⟨g4, rfl, by omega⟩
  have hR5 := hR1.add (z := ⟨nx, ⟨s, t, d, p, n, c, xs⟩⟩) (v' := .slice (some ⟨g4, 0, none⟩) ((ofR s L).length + 1) c4) (by rw [← hv0.out]; exact g14) hC1.1 r4 hloc hM5 ht5.grown
  have hC5 := (hC1.grown g14 hv0S).grown ht5.grown (fun e => by simp only [Option.some.injEq] at e; exact cells_not_map hR1.map hC1 (by simp) e.symm)
  have hk5 : Below lo w W5 := (hk1.grown g14 hb1 (fun k hk => (hrow0.lt k hk).1)).grown ht5.grown (Nat.le_trans hb1 g14.size) (fun k hk => by cases hk; exact hR1.loB)
  clear HS hR1 hC1 CX C3 r3 r4 hM5 g3 g13 gg g14 hg4 hloc hl4 ht5 hrow0 hk1 hb1
  go_simp
  refine hK.out _ _ trivial (fun e => by cases e) ?_
  clear hK K
  refine anyT_done (by kernel_rfl) ?_ _
  refine NoPanic.normal ?_
  have e1 : W5.cell? ⟨S, 1, none⟩ = some (.int .i64 nx) := (hC5.2 1).1
  have f1 := (hC5.2 1).2
  have hC6 := hC5.set 1 (by simp) (.int .i64 (nx + 1))
  have hR6 := hR5.kept (set_grown W5 S 1 (.int .i64 (nx + 1))) (fun e => by simp only [Option.some.injEq] at e; exact cells_not_map hR5.map hC5 (by simp) e) (fun y u hu => hR5.off y u hu)
  have hk6 := hk5.setCell (p := ⟨S, 1, none⟩) hlo (.int .i64 (nx + 1))
  clear hR5 hk5
  go_wp2_with (fail)
  first | go_end0 | (simp only [Exit.inBlock, Exit.then]; refine bodyPost_ret (results_none rfl _ _ _) rfl ?_) | refine bodyPost_ret (results_none rfl _ _ _) rfl ?_
  exact ⟨rfl, ⟨B, nn + 1, _, hC6, hlo, by omega, hR6⟩, hk6⟩

end Go.Proofs.YthfnechcddmjkaaGreatDoor

namespace Go.Proofs.YthfnechcddmjkaaGreatDoor
open Go.RowKit
set_option maxRecDepth 100000

def plL (its : List ItA) : List PIt := its.zipIdx.map fun z => ⟨(z.2 : Int), z.1⟩
theorem plL_push (its : List ItA) (x : ItA) : plL (its ++ [x]) = plL its ++ [⟨(its.length : Int), x⟩] := by simp [plL, List.zipIdx_append]
theorem plL_length (its : List ItA) : (plL its).length = its.length := by simp [plL]

theorem build_shelf (B : Nat) (X : World) : (Instr.build 158 #[(0, .map (some B))]).run Tryz.prog X = .ok (.agg #[.map (some B), .int .i64 0]) X := by kernel_rfl

set_option maxHeartbeats 8000000 in
theorem shelved_any (p : Option Addr) (n c : Nat) (its : List ItA) (w : World) (hn : n ≤ 1048576) (hl : its.length = n) (h : ItemsIn w p n its) (hs : ∀ x ∈ its, x.s.size ≤ 1048576) :
    Calls Tryz.prog 128 #[.slice p n c] w fun e w' => ∃ S, e = .returned (.pointer (some ⟨S, 0, none⟩)) ∧ Shelf w' w.heap.size S (plL its) n n ∧ Below w.heap.size w w' := by
  have hmm := @run_makeMap Tryz.prog
  have hbs := build_shelf w.heap.size (w.alloc (.map #[] 0))
  obtain ⟨w1, hw1⟩ : ∃ w1, w1 = w.alloc (.map #[] 0) := ⟨_, rfl⟩
  have hM := MapW.made w
  have b1 : Below w.heap.size w w1 := by rw [hw1]; exact made_below _ _ (Below.refl _ _)
  have z1 : w1.heap.size = w.heap.size + 1 := by rw [hw1]; simp
  rw [← hw1] at hM hbs
  obtain ⟨w2, hw2⟩ : ∃ w2, w2 = w1.alloc (.cells #[.map (some w.heap.size), .int .i64 0] 158) := ⟨_, rfl⟩
  have b2 : Below w1.heap.size w1 w2 := by rw [hw2]; exact made_below _ _ (Below.refl _ _)
  have C2 : Cells w2 w1.heap.size #[.map (some w.heap.size), .int .i64 0] := by rw [hw2]; exact Cells.made _ _ _
  have S0 : Shelf w2 w.heap.size w1.heap.size [] 0 0 := ⟨w.heap.size, 0, fun _ => none, C2, by omega, Nat.le_refl _, ⟨hM.on b2, Nat.le_refl _, fun _ _ => rfl, fun s hs => absurd rfl hs, fun s s' v v' _ hv => (by cases hv), fun s v hv => (by cases hv)⟩⟩
  have kb : Below w.heap.size w w2 := below_on b1 b2
  replace hw1 : Hid (w.alloc (.map #[] 0) = w1) := hw1.symm
  replace hw2 : Hid (w1.alloc (.cells #[.map (some w.heap.size), .int .i64 0] 158) = w2) := hw2.symm
  clear hM b1 b2 C2 z1
  go_enter Tryz.func128, Tryz.ntmps128
  go_wp2_with (first | rw [hw1.out] | rw [hw2.out])
  obtain ⟨S, hS⟩ : ∃ S, S = w1.heap.size := ⟨_, rfl⟩
  rw [← hS] at S0 ⊢
  clear hS hw1 hw2 hbs hmm
  go_loopw [11] (fun i wr => ∃ k : Nat, k ≤ n ∧ i = .int .i64 k ∧ Shelf wr w.heap.size S (plL (its.take k)) k k ∧ Below w.heap.size w wr) (fun i _ => n - (intOf i).toNat)
  case atStart => exact ⟨0, Nat.zero_le _, rfl, S0, kb⟩
  case round =>
    clear S0 kb
    obtain ⟨k, hk, rfl, hSh, hbel⟩ := hrel
    by_cases hlt : k < n
    · obtain ⟨b, o, rfl, hc⟩ := itemsIn_on h hbel (by omega)
      obtain ⟨x, hx⟩ : ∃ x, its.getD k default = x := ⟨_, rfl⟩
      obtain ⟨l0, l1, l2, l3⟩ := ItemsIn.at hc hlt hx
      have hsx := hs x (hx ▸ getD_mem (by omega))
      have hst : plL (its.take (k + 1)) = plL (its.take k) ++ [⟨(k : Int), x⟩] := by
        rw [take_getD (by omega), hx, plL_push, List.length_take, Nat.min_eq_left (by omega)]
      have hln : (plL (its.take k)).length ≤ 1048577 := by rw [plL_length, List.length_take]; omega
      obtain ⟨s, t, d, xp, xn, xc, xs⟩ := x
      dsimp only at l0 l1 l2 l3 hsx
      obtain ⟨w3, hw3⟩ : ∃ w3, w3 = wr.alloc (.cells #[.string s, .int .i64 t, .int .i64 d, .slice xp xn xc] 84) := ⟨_, rfl⟩
      have b3 : Below wr.heap.size wr w3 := by rw [hw3]; exact made_below _ _ (Below.refl _ _)
      have C3 : Cells w3 wr.heap.size #[.string s, .int .i64 t, .int .i64 d, .slice xp xn xc] := by rw [hw3]; exact Cells.made _ _ _
      have m0 : w3.cell? ⟨wr.heap.size, 0, none⟩ = some (.string s) := (C3.2 0).1
      have m1 : w3.cell? ⟨wr.heap.size, 1, none⟩ = some (.int .i64 t) := (C3.2 1).1
      have m2 : w3.cell? ⟨wr.heap.size, 2, none⟩ = some (.int .i64 d) := (C3.2 2).1
      have m3 : w3.cell? ⟨wr.heap.size, 3, none⟩ = some (.slice xp xn xc) := (C3.2 3).1
      have hA := add_any w3 w.heap.size S (plL (its.take k)) k k s t d xp xn xc xs hsx (by omega) hln ⟨by omega, by omega⟩ (hSh.on b3)
      have hb3 := below_on hbel b3
      rw [← hst] at hA
      replace hw3 : Hid (wr.alloc (.cells #[.string s, .int .i64 t, .int .i64 d, .slice xp xn xc] 84) = w3) := hw3.symm
      clear hc h hx hs hst hln C3 b3 hbel hSh
      go_wp2_with (rw [hw3.out])
      refine hA.mono ?_
      rintro z w4 ⟨rfl, hSh4, hb4⟩
      have hbel4 : Below w.heap.size w w4 := hb3.trans hb4
      have hSh5 : Shelf w4 w.heap.size S (plL (its.take (k + 1))) ((k + 1 : Nat) : Int) (k + 1) := by
        have e : ((k + 1 : Nat) : Int) = (k : Int) + 1 := by omega
        rw [e]; exact hSh4
      clear hA hb3 hb4 hSh4
      go_wp2_with (fail)
      go_roundw
      case rel => exact ⟨k + 1, by omega, by go_num, hSh5, hbel4⟩
      case measure => simp [intOf]; omega
    · have hkn : k = n := by omega
      subst hkn
      rw [show its.take k = its by rw [← hl, List.take_length]] at hSh
      go_wp2_with (fail)
      go_ret
      exact ⟨S, rfl, hSh, hbel⟩

end Go.Proofs.YthfnechcddmjkaaGreatDoor

namespace Go.Proofs.YthfnechcddmjkaaGreatDoor
open Go.RowKit
set_option maxRecDepth 100000

def PlIn (w : World) (p : Option Addr) (n c : Nat) (l : List PIt) : Prop :=
  n ≤ c ∧ c ≤ 9223372036854775807 ∧ (0 < n → ∃ b o, p = some ⟨b, o, none⟩ ∧ ∀ i j v, i < n → (l.getD i default).vals[j]? = some v → w.cell? ⟨b, o + i * 5 + j, none⟩ = some v)
theorem plIn_on {w w' : World} {p : Option Addr} {n c : Nat} {l : List PIt} (h : PlIn w p n c l) (hb : Below w.heap.size w w') : PlIn w' p n c l := by
  refine ⟨h.1, h.2.1, fun hn => ?_⟩
  obtain ⟨b, o, rfl, hc⟩ := h.2.2 hn
  refine ⟨b, o, rfl, fun i j v hi hv => ?_⟩
  have hlt : b < w.heap.size := World.block_lt_of_cell? w ⟨b, o + i * 5 + j, none⟩ (hc i j v hi hv)
  rw [hb.cell (p := ⟨b, o + i * 5 + j, none⟩) hlt]
  exact hc i j v hi hv
theorem plIn_own {w : World} {lo e : Nat} {p : Option Addr} {n c : Nat} {l : List PIt} (h : w.ownsRow lo e 5 (.slice p n c) n (flatP l)) (hl : l.length = n) : PlIn w p n c l := by
  rcases h.2 with ⟨hv, h0⟩ | ⟨g, cap, cur, hv, _, _, hnc, hcm, _⟩
  · simp only [Value.slice.injEq] at hv
    obtain ⟨rfl, rfl, rfl⟩ := hv
    exact ⟨by omega, by omega, fun hn => by omega⟩
  · simp only [Value.slice.injEq] at hv
    obtain ⟨rfl, _, rfl⟩ := hv
    refine ⟨hnc, by unfold maxLen at hcm; omega, fun hn => ⟨g, 0, rfl, fun i j v hi hv => ?_⟩⟩
    have hj : j < 5 := (List.getElem?_eq_some_iff.1 hv).1
    rw [Nat.zero_add, h.cellAt (i * 5 + j) (by omega), flatP_at l i j hj (by omega)]
    exact hv
theorem PlIn.at {w : World} {b o n : Nat} {l : List PIt} (h : ∀ i j v, i < n → (l.getD i default).vals[j]? = some v → w.cell? ⟨b, o + i * 5 + j, none⟩ = some v) {k : Nat} (hk : k < n) {z : PIt} (hz : l.getD k default = z) :
    w.cell? ⟨b, o + k * 5, none⟩ = some (.int .i64 z.k) ∧ w.cell? ⟨b, o + k * 5 + 1, none⟩ = some (.string z.x.s) ∧ w.cell? ⟨b, o + k * 5 + 2, none⟩ = some (.int .i64 z.x.t) ∧ w.cell? ⟨b, o + k * 5 + 3, none⟩ = some (.int .i64 z.x.d) ∧ w.cell? ⟨b, o + k * 5 + 4, none⟩ = some (.slice z.x.p z.x.n z.x.c) := by
  subst hz
  exact ⟨h k 0 _ hk rfl, h k 1 _ hk rfl, h k 2 _ hk rfl, h k 3 _ hk rfl, h k 4 _ hk rfl⟩

def hasT (t : Int) (l : List PIt) : Bool := l.any (fun z => decide (z.x.t = t))
theorem hasT_step (t : Int) (l : List PIt) (k : Nat) (h : k < l.length) : hasT t (l.take (k + 1)) = (hasT t (l.take k) || decide ((l.getD k default).x.t = t)) := by
  rw [take_getD h]
  simp [hasT]

theorem rowOk1_any (k : Int) (s : ByteArray) (t d : Int) (p : Option Addr) (n c : Nat) (PB : Nat) (t0 : Int) (w : World) (h : w.cell? ⟨PB, 2, none⟩ = some (.int .i64 t0)) :
    Calls Tryz.prog 156 #[.agg #[.int .i64 k, .string s, .int .i64 t, .int .i64 d, .slice p n c], .pointer (some ⟨PB, 0, none⟩)] w fun e w' => e = .returned (.bool (decide (t = t0))) ∧ Below w.heap.size w w' := by
  have kA : ∀ o, Below w.heap.size w (w.alloc o) := fun o => made_below _ _ (Below.refl _ _)
  have h' : ∀ o, (w.alloc o).cell? ⟨PB, 2, none⟩ = some (.int .i64 t0) := fun o => ((kA o).cell (World.block_lt_of_cell? w _ h)).trans h
  go_enter Tryz.func156, Tryz.ntmps156
  go_wp2_with (fail)
  go_ret
  exact ⟨rfl, kA _⟩

theorem slice_row (b o m cc h : Nat) (hc : h ≤ cc) (W : World) : (Instr.slice 161 (.slice (some ⟨b, o, none⟩) m cc) none (some (.int .i64 (h : Int))) none).run Tryz.prog W = .ok (.slice (some ⟨b, o, none⟩) h cc) W := by
  have ht' : Tryz.prog.underlying 161 = some (.slice (Tryz.prog.elem 161)) := by simp [Program.elem, Tryz.underlying161]
  have he : Tryz.prog.elem 161 = 199 := by simp [Program.elem, Tryz.underlying161]
  rw [run_slice_h W 161 _ _ _ ht' .i64 h (by omega) (by omega), he]
  simp [sliced, Addr.add]

set_option maxHeartbeats 4000000 in
theorem indexFunc_any (p : Option Addr) (n c : Nat) (l : List PIt) (PB : Nat) (t0 : Int) (w : World) (hn : n ≤ 1048577) (hl : n ≤ l.length) (h : PlIn w p n c l) (hp : w.cell? ⟨PB, 2, none⟩ = some (.int .i64 t0)) :
    Calls Tryz.prog 184 #[.slice p n c, .func (.func 156) #[] #[.pointer (some ⟨PB, 0, none⟩)]] w fun e w' => ∃ r : Int, e = .returned (.int .i64 r) ∧ Hid (decide (0 ≤ r) = hasT t0 (l.take n)) ∧ Below w.heap.size w w' := by
  go_enter Tryz.func184, Tryz.ntmps184
  go_wp2_with (fail)
  go_loopw [8] (fun i wr => ∃ k : Nat, k ≤ n ∧ i = .int .i64 k ∧ Hid (hasT t0 (l.take k) = false) ∧ Below w.heap.size w wr) (fun i _ => n - (intOf i).toNat)
  case atStart => exact ⟨0, Nat.zero_le _, rfl, rfl, Below.refl _ _⟩
  case round =>
    obtain ⟨k, hk, rfl, hno, hbel⟩ := hrel
    by_cases hlt : k < n
    · obtain ⟨b, o, rfl, hc⟩ := (plIn_on h hbel).2.2 (by omega)
      obtain ⟨z, hz⟩ : ∃ z, l.getD k default = z := ⟨_, rfl⟩
      obtain ⟨l0, l1, l2, l3, l4⟩ := PlIn.at hc hlt hz
      have hst := hasT_step t0 l k (by omega)
      rw [hno.out, hz, Bool.false_or] at hst
      have hin : Hid (z.x.t = t0 → hasT t0 (l.take n) = true) := fun e => by
        refine List.any_eq_true.2 ⟨z, ?_, by simp [e]⟩
        rw [← hz, List.getD_eq_getElem?_getD, List.getElem?_eq_getElem (show k < l.length by omega)]
        exact List.mem_take_iff_getElem.2 ⟨k, by omega, rfl⟩
      obtain ⟨pk, ⟨s, t, d, xp, xn, xc, xs⟩⟩ := z
      dsimp only at l0 l1 l2 l3 l4 hst hin
      have C := rowOk1_any pk s t d xp xn xc PB t0 wr ((hbel.cell (World.block_lt_of_cell? w _ hp)).trans hp)
      clear hc h hz hno
      by_cases e : t = t0
      · have hyes := hin.out e
        rw [decide_eq_true e] at C
        clear hst hin e
        go_wp2_with (fail)
        refine C.mono ?_
        rintro y w2 ⟨rfl, b2⟩
        have hbel2 := below_on hbel b2
        clear hbel b2 C
        go_wp2_with (fail)
        go_ret
        exact ⟨k, rfl, by rw [Hid, hyes]; exact decide_eq_true (by omega), hbel2⟩
      · rw [decide_eq_false e] at C hst
        replace hst : Hid (hasT t0 (l.take (k + 1)) = false) := hst
        clear hin e
        go_wp2_with (fail)
        refine C.mono ?_
        rintro y w2 ⟨rfl, b2⟩
        have hbel2 := below_on hbel b2
        clear hbel b2 C
        go_wp2_with (fail)
        go_roundw
        case rel => exact ⟨k + 1, by omega, by go_num, hst, hbel2⟩
        case measure => simp [intOf]; omega
    · have hkn : k = n := by omega
      subst hkn
      have hno' := hno.out
      clear hno
      go_wp2_with (fail)
      go_ret
      exact ⟨-1, rfl, by rw [Hid, hno']; rfl, hbel⟩

theorem containsFunc_any (p : Option Addr) (n c : Nat) (l : List PIt) (PB : Nat) (t0 : Int) (w : World) (hn : n ≤ 1048577) (hl : n ≤ l.length) (h : PlIn w p n c l) (hp : w.cell? ⟨PB, 2, none⟩ = some (.int .i64 t0)) :
    Calls Tryz.prog 157 #[.slice p n c, .func (.func 156) #[] #[.pointer (some ⟨PB, 0, none⟩)]] w fun e w' => e = .returned (.bool (hasT t0 (l.take n))) ∧ Below w.heap.size w w' := by
  have C := indexFunc_any p n c l PB t0 w hn hl h hp
  generalize hasT t0 (l.take n) = R at C ⊢
  go_enter Tryz.func157, Tryz.ntmps157
  go_wp2_with (fail)
  refine C.mono ?_
  rintro y w2 ⟨r, rfl, hr, b2⟩
  have hr' := hr.out
  clear hr C
  go_wp2_with (fail)
  go_ret
  exact ⟨rfl, b2⟩

def RwOk (r : List PIt) : Prop := r.length ≤ 4 ∧ ∀ i, i < r.length → (r.getD i default).x.t ≠ 0 → hasT (r.getD i default).x.t (r.take i) = false
noncomputable def rwB (r : List PIt) : Bool := @decide (RwOk r) (Classical.propDecidable _)
theorem rwB_true {r : List PIt} (h : RwOk r) : rwB r = true := by unfold rwB; exact @decide_eq_true _ (Classical.propDecidable _) h
theorem rwB_false {r : List PIt} (h : ¬ RwOk r) : rwB r = false := by unfold rwB; exact @decide_eq_false _ (Classical.propDecidable _) h

set_option maxHeartbeats 4000000 in
theorem rowOk_any (p : Option Addr) (n c : Nat) (l : List PIt) (w : World) (hn : n ≤ 1048577) (hl : l.length = n) (h : PlIn w p n c l) :
    Calls Tryz.prog 129 #[.slice p n c] w fun e w' => e = .returned (.bool (rwB l)) ∧ Below w.heap.size w w' := by
  obtain ⟨R, hR⟩ : ∃ R : Bool, R = rwB l := ⟨_, rfl⟩
  rw [← hR]
  by_cases h4 : (n : Int) ≤ 4
  · have hno : Hid (∀ i, i < n → (l.getD i default).x.t ≠ 0 → hasT (l.getD i default).x.t (l.take i) = true → R = false) := fun i hi h0 h1 => by
      rw [hR]
      exact rwB_false fun q => by have := q.2 i (by omega) h0; rw [this] at h1; cases h1
    have hall : Hid ((∀ i, i < n → (l.getD i default).x.t ≠ 0 → hasT (l.getD i default).x.t (l.take i) = false) → R = true) := fun ha => by
      rw [hR]
      exact rwB_true ⟨by omega, fun i hi => ha i (by omega)⟩
    clear hR
    go_enter Tryz.func129, Tryz.ntmps129
    go_wp2_with (fail)
    go_loopw [11] (fun i wr => ∃ k : Nat, k ≤ n ∧ i = .int .i64 k ∧ Hid (∀ j, j < k → (l.getD j default).x.t ≠ 0 → hasT (l.getD j default).x.t (l.take j) = false) ∧ Below w.heap.size w wr) (fun i _ => n - (intOf i).toNat)
    case atStart => exact ⟨0, Nat.zero_le _, rfl, fun j hj => absurd hj (Nat.not_lt_zero _), Below.refl _ _⟩
    case round =>
      obtain ⟨k, hk, rfl, hdone, hbel⟩ := hrel
      by_cases hlt : k < n
      · have hP := plIn_on h hbel
        obtain ⟨b, o, rfl, hc⟩ := hP.2.2 (by omega)
        obtain ⟨z, hz⟩ : ∃ z, l.getD k default = z := ⟨_, rfl⟩
        obtain ⟨l0, l1, l2, l3, l4⟩ := PlIn.at hc hlt hz
        have hnk := hno.out k hlt
        rw [hz] at hnk
        have hmore : Hid ((z.x.t ≠ 0 → hasT z.x.t (l.take k) = false) → ∀ j, j < k + 1 → (l.getD j default).x.t ≠ 0 → hasT (l.getD j default).x.t (l.take j) = false) := fun q j hj => by
          rcases Nat.lt_succ_iff_lt_or_eq.1 hj with e | e
          · exact hdone.out j e
          · subst e; rw [hz]; exact q
        obtain ⟨pk, ⟨s, t, d, xp, xn, xc, xs⟩⟩ := z
        dsimp only at l0 l1 l2 l3 l4 hnk hmore
        obtain ⟨w3, hw3⟩ : ∃ w3, w3 = wr.alloc (.cells #[.int .i64 pk, .string s, .int .i64 t, .int .i64 d, .slice xp xn xc] 199) := ⟨_, rfl⟩
        have b3 : Below wr.heap.size wr w3 := by rw [hw3]; exact made_below _ _ (Below.refl _ _)
        have C3 : Cells w3 wr.heap.size #[.int .i64 pk, .string s, .int .i64 t, .int .i64 d, .slice xp xn xc] := by rw [hw3]; exact Cells.made _ _ _
        have m2 : w3.cell? ⟨wr.heap.size, 2, none⟩ = some (.int .i64 t) := (C3.2 2).1
        have hb3 := below_on hbel b3
        have hsl := slice_row b o n c k (by have := h.1; omega) w3
        have hP3 := plIn_on hP b3
        have hPk : PlIn w3 (some ⟨b, o, none⟩) k c l := ⟨by have := hP3.1; omega, hP3.2.1, fun hk0 => by
          obtain ⟨b', o', e, hc'⟩ := hP3.2.2 (by omega)
          exact ⟨b', o', e, fun i j v hi hv => hc' i j v (by omega) hv⟩⟩
        have CC := containsFunc_any (some ⟨b, o, none⟩) k c l wr.heap.size t w3 (by omega) (by omega) hPk m2
        replace hw3 : Hid (wr.alloc (.cells #[.int .i64 pk, .string s, .int .i64 t, .int .i64 d, .slice xp xn xc] 199) = w3) := hw3.symm
        clear hc hP hP3 hPk h hz C3 b3 hbel hdone hno hall
        by_cases e0 : t = 0
        · subst e0
          replace hmore : Hid _ := hmore.out (fun q => absurd rfl q)
          clear hnk CC
          go_wp2_with (rw [hw3.out])
          go_roundw
          case rel => exact ⟨k + 1, by omega, by go_num, hmore, hb3⟩
          case measure => simp [intOf]; omega
        · have e0' : (t != 0) = true := by simp [e0]
          cases hh : hasT t (l.take k)
          · rw [hh] at CC
            replace hmore : Hid _ := hmore.out (fun _ => hh)
            clear hnk hh e0
            go_wp2_with (rw [hw3.out])
            refine CC.mono ?_
            rintro y w4 ⟨rfl, b4⟩
            have hb4 := below_on hb3 b4
            clear CC hb3 b4 hsl
            go_wp2_with (fail)
            go_roundw
            case rel => exact ⟨k + 1, by omega, by go_num, hmore, hb4⟩
            case measure => simp [intOf]; omega
          · rw [hh] at CC
            have hr := hnk e0 hh
            subst hr
            clear hnk hh e0 hmore
            go_wp2_with (rw [hw3.out])
            refine CC.mono ?_
            rintro y w4 ⟨rfl, b4⟩
            have hb4 := below_on hb3 b4
            clear CC hb3 b4 hsl
            go_wp2_with (fail)
            go_ret
            exact ⟨rfl, hb4⟩
      · have hkn : k = n := by omega
        subst hkn
        have hr := hall.out hdone
        subst hr
        clear hno hall hdone
        go_wp2_with (fail)
        go_ret
        exact ⟨rfl, hbel⟩
  · have hr : R = false := by rw [hR]; exact rwB_false fun q => h4 (by have := q.1; omega)
    subst hr
    clear hR
    go_enter Tryz.func129, Tryz.ntmps129
    go_wp2_with (fail)
    go_ret
    exact ⟨rfl, Below.refl _ _⟩

end Go.Proofs.YthfnechcddmjkaaGreatDoor

namespace Go.Proofs.YthfnechcddmjkaaGreatDoor
open Go.RowKit
set_option maxRecDepth 100000

theorem keyS_inv {key : Value} {l : Lit} (h : keyOf Tryz.prog 9 key = some l) : ∃ s : ByteArray, key = .string s ∧ l = kl s := by
  cases key <;> simp [keyOf, Tryz.underlying9, mapKey] at h
  obtain ⟨_, rfl⟩ := h
  exact ⟨_, rfl, rfl⟩
theorem SaysM.inv {D : DataW Value} {m : ByteArray → Option Value} (h : SaysM D m) {s : ByteArray} {v : Value} (hat : ∀ z, D.atKey (kl s) z = .held v) : m s = some v := by
  cases e : m s with
  | none =>
    have := (h s).1 e .nil
    rw [hat] at this
    cases this
  | some u =>
    have := (h s).2 u e .nil
    rw [hat] at this
    simp only [DataW.held.injEq] at this
    rw [this]

theorem row_not_iter {w : World} {B r n cnt : Nat} {D : DataW Value} {left : Lit → Bool} (h : w.ranges Tryz.prog 9 tokR B r n D left cnt) {lo e size k : Nat} {v u : Value} {xs : List Value} (hr : w.ownsRow lo e size u k xs) (hu : u = v) : v.ownBlock ≠ some r := by
  subst hu
  obtain ⟨es, clock, since, seen, c0, _, _, _, _, hb, _⟩ := h
  rcases hr.2 with ⟨rfl, _⟩ | ⟨g, cap, cur, rfl, _, hg, _⟩
  · simp [Value.ownBlock]
  · simp only [Value.ownBlock, ne_eq, Option.some.injEq]
    intro e
    rw [e, hb] at hg
    cases hg

theorem rwOk_iff (r : List PIt) : RwOk r ↔ r.length ≤ 4 ∧ r.Pairwise (fun a b => b.x.t ≠ 0 → a.x.t ≠ b.x.t) := by
  unfold RwOk
  refine and_congr_right fun _ => ?_
  rw [List.pairwise_iff_getElem]
  have eg : ∀ i (h : i < r.length), r.getD i default = r[i] := fun i h => by rw [List.getD_eq_getElem?_getD, List.getElem?_eq_getElem h]; rfl
  constructor
  · intro q i j hi hj hij h0 e
    have := q j hj (by rw [eg j hj]; exact h0)
    rw [eg j hj] at this
    have h1 : hasT r[j].x.t (r.take j) = true := List.any_eq_true.2 ⟨r[i], List.mem_take_iff_getElem.2 ⟨i, by omega, rfl⟩, by simp [e]⟩
    rw [this] at h1
    cases h1
  · intro q j hj h0
    rw [eg j hj] at h0 ⊢
    rw [Bool.eq_false_iff]
    intro h1
    obtain ⟨z, hz, e⟩ := List.any_eq_true.1 h1
    obtain ⟨i, hi, rfl⟩ := List.mem_take_iff_getElem.1 hz
    exact q i j (by omega) hj (by omega) h0 (by simpa using e)

theorem plL_items (its : List ItA) : (plL its).map PIt.x = its := by
  unfold plL
  rw [List.map_map]
  have : (PIt.x ∘ fun z : ItA × Nat => (⟨(z.2 : Int), z.1⟩ : PIt)) = Prod.fst := rfl
  rw [this, List.zipIdx_map_fst]

theorem ofR_count' (s : ByteArray) (its : List ItA) : (ofR s (plL its)).length = cntI s its := by
  have e : (ofR s (plL its)).length = (((plL its).map PIt.x).filter (fun x => decide (x.s = s))).length := by
    rw [List.filter_map, List.length_map]; rfl
  rw [e, plL_items, cntI, List.countP_eq_length_filter]

theorem queue_rows (its : List ItA) (hi : ∀ x ∈ its, itB x.s x.t x.d x.n = true) (hlen : its.length ≤ 10) : qB its = true ↔ ∀ s, RwOk (ofR s (plL its)) := by
  have ht : ∀ x ∈ its, 0 ≤ x.t := fun x hx => by
    have := hi x hx
    simp only [itB, Bool.and_eq_true, decide_eq_true_eq] at this
    exact this.1.1.2.1
  have eg : ∀ i (h : i < its.length), its.getD i default = its[i] := fun i h => by rw [List.getD_eq_getElem?_getD, List.getElem?_eq_getElem h]; rfl
  have hq : qB its = true ↔ QOk its := by unfold qB; exact @decide_eq_true_iff _ (Classical.propDecidable _)
  have hp : (∀ s, (ofR s (plL its)).Pairwise (fun a b => b.x.t ≠ 0 → a.x.t ≠ b.x.t)) ↔ its.Pairwise (fun x y => ¬ clash x y) := by
    have e1 : its.Pairwise (fun x y => ¬ clash x y) ↔ (plL its).Pairwise (fun a b => ¬ clash a.x b.x) := by
      rw [← List.pairwise_map (f := PIt.x) (R := fun x y => ¬ clash x y), plL_items]
    rw [e1]
    have mem : ∀ z ∈ plL its, z.x ∈ its := fun z hz => by rw [← plL_items its]; exact List.mem_map.2 ⟨z, hz, rfl⟩
    constructor
    · intro q
      rw [List.pairwise_iff_forall_sublist]
      intro a b hab hc
      have hb : b ∈ plL its := hab.subset (by simp)
      have h2 := List.pairwise_filter.1 (q a.x.s)
      have h3 := (List.pairwise_iff_forall_sublist.1 h2) hab (by simp) (by simp [hc.1])
      exact h3 (by have := hc.2.2; omega) hc.2.1
    · intro q s
      rw [ofR, List.pairwise_filter]
      rw [List.pairwise_iff_forall_sublist] at q ⊢
      intro a b hab ha hb h0 e
      simp only [decide_eq_true_eq] at ha hb
      have h0' : 0 ≤ b.x.t := ht _ (mem b (hab.subset (by simp)))
      exact q hab ⟨ha.trans hb.symm, e, by omega⟩
  have hn : (∀ s, (ofR s (plL its)).length ≤ 4) ↔ ∀ i, i < its.length → cntI (its.getD i default).s its ≤ 4 := by
    constructor
    · intro q i _
      rw [← ofR_count']; exact q _
    · intro q s
      rw [ofR_count']
      by_cases e : cntI s its = 0
      · omega
      · obtain ⟨x, hx, he⟩ := List.countP_pos_iff.1 (Nat.pos_of_ne_zero e)
        simp only [decide_eq_true_eq] at he
        obtain ⟨i, hil, rfl⟩ := List.getElem_of_mem hx
        have := q i hil
        rwa [eg i hil, he] at this
  rw [hq]
  have hr : (∀ s, RwOk (ofR s (plL its))) ↔ (∀ s, (ofR s (plL its)).length ≤ 4) ∧ ∀ s, (ofR s (plL its)).Pairwise (fun a b => b.x.t ≠ 0 → a.x.t ≠ b.x.t) :=
    ⟨fun q => ⟨fun s => ((rwOk_iff _).1 (q s)).1, fun s => ((rwOk_iff _).1 (q s)).2⟩, fun q s => (rwOk_iff _).2 ⟨q.1 s, q.2 s⟩⟩
  rw [hr, hp, hn, List.pairwise_iff_getElem]
  constructor
  · intro q
    refine ⟨fun i h => (q.2 i h).2.1, fun i j hi' hj hij => ?_⟩
    have := (q.2 j hj).2.2 i hij
    rwa [eg i hi', eg j hj] at this
  · intro q
    refine ⟨hlen, fun i h => ⟨?_, q.1 i h, fun k hk => ?_⟩⟩
    · rw [eg i h]; exact hi _ (List.getElem_mem _)
    · rw [eg i h, eg k (by omega)]; exact q.2 k i (by omega) h hk

set_option maxHeartbeats 8000000 in
theorem implQueueOk_any (p : Option Addr) (n c : Nat) (its : List ItA) (w : World) (hn : n ≤ 1048576) (hl : its.length = n) (h : ItemsIn w p n its) (hs : ∀ x ∈ its, x.s.size ≤ 1048576) :
    Calls Tryz.prog 105 #[.slice p n c] w fun e w' => e = .returned (.bool (qB its)) ∧ Below w.heap.size w w' := by
  obtain ⟨R, hR⟩ : ∃ R : Bool, R = qB its := ⟨_, rfl⟩
  rw [← hR]
  by_cases h10 : (n : Int) ≤ 10
  · have hno : Hid (∀ x ∈ its, itB x.s x.t x.d x.n = false → R = false) := fun x hx hb => by
      rw [hR]
      refine qB_false fun q => ?_
      obtain ⟨i, hi, hxi⟩ := List.getElem_of_mem hx
      have := (q.2 i hi).1
      rw [show its.getD i default = x by rw [List.getD_eq_getElem?_getD, List.getElem?_eq_getElem hi, hxi]; rfl, hb] at this
      cases this
    have hrow : Hid ((∀ x ∈ its, itB x.s x.t x.d x.n = true) → (R = true ↔ ∀ s, RwOk (ofR s (plL its)))) := fun q => by rw [hR]; exact queue_rows its q (by omega)
    clear hR
    go_enter Tryz.func105, Tryz.ntmps105
    go_wp2_with (fail)
    go_loopw [12] (fun i wr => ∃ k : Nat, k ≤ n ∧ i = .int .i64 k ∧ Hid (∀ x ∈ its.take k, itB x.s x.t x.d x.n = true) ∧ Below w.heap.size w wr) (fun i _ => n - (intOf i).toNat)
    case atStart => exact ⟨0, Nat.zero_le _, rfl, fun x hx => by simp at hx, Below.refl _ _⟩
    case round =>
      obtain ⟨k, hk, rfl, hdone, hbel⟩ := hrel
      by_cases hlt : k < n
      · obtain ⟨b, o, rfl, hc⟩ := itemsIn_on h hbel (by omega)
        obtain ⟨x, hx⟩ : ∃ x, its.getD k default = x := ⟨_, rfl⟩
        obtain ⟨l0, l1, l2, l3⟩ := ItemsIn.at hc hlt hx
        have hxm : x ∈ its := hx ▸ getD_mem (by omega)
        have hsx := hs x hxm
        have hnx := hno.out x hxm
        have hmore : Hid (itB x.s x.t x.d x.n = true → ∀ y ∈ its.take (k + 1), itB y.s y.t y.d y.n = true) := fun q y hy => by
          rw [take_getD (by omega), hx] at hy
          rcases List.mem_append.1 hy with e | e
          · exact hdone.out y e
          · simp at e; rw [e]; exact q
        obtain ⟨s, t, d, xp, xn, xc, xs⟩ := x
        dsimp only at l0 l1 l2 l3 hsx hnx hmore
        obtain ⟨w3, hw3⟩ : ∃ w3, w3 = wr.alloc (.cells #[.string s, .int .i64 t, .int .i64 d, .slice xp xn xc] 84) := ⟨_, rfl⟩
        have b3 : Below wr.heap.size wr w3 := by rw [hw3]; exact made_below _ _ (Below.refl _ _)
        have C3 : Cells w3 wr.heap.size #[.string s, .int .i64 t, .int .i64 d, .slice xp xn xc] := by rw [hw3]; exact Cells.made _ _ _
        have m0 : w3.cell? ⟨wr.heap.size, 0, none⟩ = some (.string s) := (C3.2 0).1
        have m1 : w3.cell? ⟨wr.heap.size, 1, none⟩ = some (.int .i64 t) := (C3.2 1).1
        have m2 : w3.cell? ⟨wr.heap.size, 2, none⟩ = some (.int .i64 d) := (C3.2 2).1
        have m3 : w3.cell? ⟨wr.heap.size, 3, none⟩ = some (.slice xp xn xc) := (C3.2 3).1
        have hb3 := below_on hbel b3
        have C := implItemOk_any s t d xp xn xc w3 hsx
        replace hw3 : Hid (wr.alloc (.cells #[.string s, .int .i64 t, .int .i64 d, .slice xp xn xc] 84) = w3) := hw3.symm
        clear hc h hx hxm hs C3 b3 hbel hdone hno hrow
        cases hb : itB s t d xn
        · rw [hb] at C
          have hr := hnx hb
          subst hr
          clear hnx hb hmore
          go_wp2_with (rw [hw3.out])
          refine C.mono ?_
          rintro y w4 ⟨rfl, b4⟩
          have hb4 := below_on hb3 b4
          clear C hb3 b4
          go_wp2_with (fail)
          go_ret
          exact ⟨rfl, hb4⟩
        · rw [hb] at C
          replace hmore : Hid _ := hmore.out hb
          clear hnx hb
          go_wp2_with (rw [hw3.out])
          refine C.mono ?_
          rintro y w4 ⟨rfl, b4⟩
          have hb4 := below_on hb3 b4
          clear C hb3 b4
          go_wp2_with (fail)
          go_roundw
          case rel => exact ⟨k + 1, by omega, by go_num, hmore, hb4⟩
          case measure => simp [intOf]; omega
      · have hkn : k = n := by omega
        subst hkn
        rw [show its.take k = its by rw [← hl, List.take_length]] at hdone
        replace hrow := hrow.out hdone.out
        replace hrow : Hid (R = true ↔ ∀ s, RwOk (ofR s (plL its))) := hrow
        clear hno hdone
        go_wp2_with (fail)
        refine (shelved_any p k c its _ hn hl (itemsIn_on h hbel) hs).mono ?_
        rintro z w1 ⟨S, rfl, ⟨B, nn, m, hC, hlo, hnN, hR⟩, b1⟩
        have hbel1 := below_on hbel b1
        obtain ⟨D, hown, hsay⟩ := hR.map
        have l0 : w1.cell? ⟨S, 0, none⟩ = some (.map (some B)) := (hC.2 0).1
        clear hbel b1
        go_wp2_with (first
          | (at_range; refine wpList_range_own _ rfl _ 156 rfl 9 161 keyedS Tryz.underlying156 _ B nn _ rfl hown ?_; intro w0 hrg0 hg0 hs0)
          | go_in)
        go_frame
        obtain ⟨lo, hlo'⟩ : ∃ lo, lo = wr.heap.size := ⟨_, rfl⟩
        rw [← hlo'] at hR hlo
        clear hlo'
        obtain ⟨r, hr0⟩ : ∃ r, r = w1.heap.size := ⟨_, rfl⟩
        have hrlo : w.heap.size ≤ r := by have := hbel1.size; omega
        rw [← hr0] at hrg0 ⊢
        clear hr0 hs0
        have hR0 := hR.kept hg0 (by simp) (fun s v hv => hR.ne hv)
        have hbel0 : Below w.heap.size w w0 := hbel1.grown hg0 hbel1.size (fun _ h => by cases h)
        have hst : Hid (∀ s, m s ≠ none → Maps.has D (kl s) = false → RwOk (ofR s (plL its))) := fun s h1 h2 => by
          rw [hsay.has s] at h2
          cases e : m s with
          | none => exact absurd e h1
          | some v => rw [e] at h2; cases h2
        clear hC hlo l0 hown hR hbel1 hg0
        go_loopw [6] (fun _ wr => ∃ (left : Lit → Bool) (cnt : Nat), wr.ranges Tryz.prog 9 tokR B r nn D left cnt ∧ Rows13 wr lo S B nn m (plL its) ∧ Hid (∀ s, m s ≠ none → left (kl s) = false → RwOk (ofR s (plL its))) ∧ Below w.heap.size w wr) (fun _ wr => wr.rangeLeft B r)
        case atStart => exact ⟨_, _, hrg0, hR0, hst, hbel0⟩
        case round =>
          clear hrg0 hR0 hst hbel0
          obtain ⟨left, cnt, hrg, hRw, hseen, hbw⟩ := hrel
          go_wp2_with (first
            | (at_next; refine wpList_next_ranges _ rfl _ rfl 9 keyedS tokR Value.string (fun v : Value => v) (fun key l hk => by obtain ⟨s, e, _⟩ := keyS_inv hk; exact ⟨s, e⟩) (fun v _ _ => ⟨v, rfl⟩) B r nn D left cnt rfl hrg ?_ ?_)
            | go_in)
          · intro _ hl0
            have hr : R = true := hrow.out.2 fun s => by
              cases e : m s with
              | none =>
                by_cases e2 : ofR s (plL its) = []
                · rw [e2]; exact ⟨by simp, fun i hi => by simp at hi⟩
                · obtain ⟨v, hv, _⟩ := hRw.aRow s e2
                  rw [e] at hv; cases hv
              | some v => exact hseen.out s (by rw [e]; simp) (hl0 _)
            subst hr
            clear hrow hseen hrg hRw
            go_wp2_with (fail)
            go_ret
            exact ⟨rfl, hbw⟩
          · intro s v kl' yd yp w2 cnt2 hkey hlk hv hat hrg2 hlt2 hg2 hs2 hen
            obtain ⟨s', e1, rfl⟩ := keyS_inv hkey
            simp only [Value.string.injEq] at e1
            subst e1
            simp only [tokR, Option.some.injEq, Prod.mk.injEq] at hv
            obtain ⟨rfl, rfl⟩ := hv
            have hms := hsay.inv hat
            have hne : ofR s (plL its) ≠ [] := fun e => by rw [hRw.noRow s e] at hms; cases hms
            have hRw2 := hRw.kept hg2 (fun e => hrg.ne (by simp only [Option.some.injEq] at e; exact e.symm)) (fun y u hu => row_not_iter hrg (hRw.row y) (by rw [hu]; rfl))
            have hbw2 : Below w.heap.size w w2 := hbw.grown hg2 hbw.size (fun j hj => by cases hj; exact hrlo)
            have hro := hRw2.row s
            rw [hms] at hro
            obtain ⟨q, cc, rfl⟩ : ∃ q cc, v = .slice q (ofR s (plL its)).length cc := owns_form hro
            have CR := rowOk_any q (ofR s (plL its)).length cc (ofR s (plL its)) w2 (by have := ofR_len s (plL its); rw [plL_length] at this; omega) rfl (plIn_own hro rfl)
            have hsn2 : Hid (RwOk (ofR s (plL its)) → ∀ y, m y ≠ none → (fun z => left z && !z.sameKey (kl s)) (kl y) = false → RwOk (ofR y (plL its))) := fun q y h1 h2 => by
              by_cases e : y = s
              · rw [e]; exact q
              · refine hseen.out y h1 ?_
                have : (kl y).sameKey (kl s) = false := by
                  rw [Bool.eq_false_iff]
                  intro k
                  exact e (kl_inj (by simpa [kl, Lit.sameKey] using k))
                simpa [this] using h2
            have hms2 : ∀ {X : World}, Below w2.heap.size w2 X → X.ranges Tryz.prog 9 tokR B r nn D (fun z => left z && !z.sameKey (kl s)) cnt2 ∧ Rows13 X lo S B nn m (plL its) := fun bX => ⟨hrg2.kept (row := none) ⟨bX.os, bX.tape, bX.output, bX.size, fun k hk _ => bX.block k hk⟩ (by simp) (by simp), hRw2.on bX⟩
            have hcnt : wr.rangeLeft B r = cnt := hrg.left_eq
            by_cases hq : RwOk (ofR s (plL its))
            · rw [rwB_true hq] at CR
              replace hsn2 : Hid _ := hsn2.out hq
              clear hq hat hkey hlk hg2 hs2 hrg hRw hseen hro hne hrow hrg2 hRw2 hsay
              go_wp2_with (fail)
              refine CR.mono ?_
              rintro y w3 ⟨rfl, b3⟩
              have hX := hms2 b3
              have hb3 := below_on hbw2 b3
              clear CR b3 hbw2 hms2 hen
              go_wp2_with (fail)
              go_roundw
              case rel => exact ⟨_, cnt2, hX.1, hX.2, hsn2, hb3⟩
              case measure => rw [hX.1.left_eq, hcnt]; exact hlt2
            · rw [rwB_false hq] at CR
              have hr : R = false := by
                cases e : R with
                | false => rfl
                | true => exact absurd (hrow.out.1 e s) hq
              subst hr
              clear hq hat hkey hlk hg2 hs2 hrg hRw hseen hro hne hrow hrg2 hRw2 hsay hsn2 hms2 hcnt
              go_wp2_with (fail)
              refine CR.mono ?_
              rintro y w3 ⟨rfl, b3⟩
              have hb3 := below_on hbw2 b3
              clear CR b3 hbw2 hen
              go_wp2_with (fail)
              go_ret
              exact ⟨rfl, hb3⟩
  · have hr : R = false := by rw [hR]; exact qB_false fun q => h10 (by have := q.1; omega)
    subst hr
    clear hR
    go_enter Tryz.func105, Tryz.ntmps105
    go_wp2_with (fail)
    go_ret
    exact ⟨rfl, Below.refl _ _⟩

end Go.Proofs.YthfnechcddmjkaaGreatDoor

namespace Go.Proofs.YthfnechcddmjkaaGreatDoor
open Go.RowKit
set_option maxRecDepth 100000

set_option maxHeartbeats 4000000 in
theorem specOfW_any (p : Option Addr) (n c : Nat) (its : List ItA) (s : ByteArray) (w : World) (hn : n ≤ 1048577) (hl : its.length = n) (h : ItemsIn w p n its) :
    Calls Tryz.prog 118 #[.slice p n c, .string s] w fun e w' => e = .returned (.int .i64 (cntI s its)) ∧ w' = w := by
  go_enter Tryz.func118, Tryz.ntmps118
  go_wp2_with (fail)
  go_loopw [5, 6] (fun a i wr => ∃ k : Nat, k ≤ n ∧ i = .int .i64 k ∧ (∃ m : Nat, a = .int .i64 m ∧ Hid (m = cntI s (its.take k)) ∧ m ≤ 1048577) ∧ wr = w) (fun _ i _ => n - (intOf i).toNat)
  case atStart => exact ⟨0, Nat.zero_le _, rfl, ⟨0, rfl, rfl, by omega⟩, rfl⟩
  case round =>
    obtain ⟨k, hk, rfl, ⟨m, rfl, hm, hm1⟩, rfl⟩ := hrel
    by_cases hlt : k < n
    · obtain ⟨b, o, rfl, hc⟩ := h (by omega)
      have h1 : wr.cell? ⟨b, o + k * 4, none⟩ = some (.string (its.getD k default).s) := hc k 0 _ hlt rfl
      have hst := cntI_step s its k (by omega)
      have hle := cntI_le s (its.take (k + 1))
      generalize (its.getD k default).s = u at h1 hst
      clear hc h
      have e1 := str_eq_any u s
      go_wp2_with (fail)
      refine (bit_any _ _).mono ?_
      rintro z w1 ⟨rfl, rfl⟩
      obtain ⟨g, hg⟩ : ∃ g : Nat, g = if u = s then 1 else 0 := ⟨_, rfl⟩
      have eg : (if decide (u = s) = true then (1 : Int) else 0) = (g : Int) := by
        rw [hg]
        by_cases hh : u = s <;> simp [hh]
      rw [eg]
      have hg1 : g ≤ 1 := by rw [hg]; split <;> omega
      have hnew : Hid (m + g = cntI s (its.take (k + 1))) := by rw [Hid, hst, ← hg, ← hm.out]
      have hmg : m + g ≤ 1048577 := by
        have := hnew.out
        have := List.length_take_le (k + 1) its
        rw [List.length_take] at hle
        omega
      clear hg eg e1 hst hle hm
      go_wp2_with (fail)
      go_roundw
      case rel => exact ⟨k + 1, by omega, by go_num, ⟨m + g, by go_num, hnew, hmg⟩, trivial⟩
      case measure => simp [intOf]; omega
    · have hkn : k = n := by omega
      subst hkn
      have hall : Hid (m = cntI s its) := by rw [Hid, hm.out, ← hl, List.take_length]
      clear hm
      go_wp2_with (fail)
      go_ret
      exact ⟨by rw [← hall.out]; rfl, rfl⟩

set_option maxHeartbeats 8000000 in
theorem specQueueOkW_any (p : Option Addr) (n c : Nat) (its : List ItA) (w : World) (hn : n ≤ 1048577) (hl : its.length = n) (h : ItemsIn w p n its) (hs : ∀ x ∈ its, x.s.size ≤ 1048576) :
    Calls Tryz.prog 92 #[.slice p n c] w fun e w' => e = .returned (.bool (qB its)) ∧ Below w.heap.size w w' := by
  obtain ⟨R, hR⟩ : ∃ R : Bool, R = qB its := ⟨_, rfl⟩
  rw [← hR]
  have hno : Hid (∀ i, i < n → ¬ okAt its i → R = false) := fun i hi hx => by rw [hR]; exact qB_false fun q => hx (q.2 i (by omega))
  have hall : Hid ((∀ i, i < n → okAt its i) → R = decide (n ≤ 10)) := fun ha => by
    rw [hR]
    by_cases e : n ≤ 10
    · rw [decide_eq_true e]; exact qB_true ⟨by omega, fun i hi => ha i (by omega)⟩
    · rw [decide_eq_false e]; exact qB_false fun q => e (by have := q.1; omega)
  clear hR
  go_enter Tryz.func92, Tryz.ntmps92
  go_wp2_with (fail)
  go_loopw [3] (fun i wr => ∃ k : Nat, k ≤ n ∧ i = .int .i64 k ∧ Hid (∀ j, j < k → okAt its j) ∧ Below w.heap.size w wr) (fun i _ => n - (intOf i).toNat)
  case atStart => exact ⟨0, Nat.zero_le _, rfl, fun j hj => absurd hj (Nat.not_lt_zero _), Below.refl _ _⟩
  case round =>
    obtain ⟨k, hk, rfl, hdone, hbel⟩ := hrel
    by_cases hlt : k < n
    · have hI := itemsIn_on h hbel
      obtain ⟨b, o, rfl, hc⟩ := hI (by omega)
      obtain ⟨x, hx⟩ : ∃ x, its.getD k default = x := ⟨_, rfl⟩
      obtain ⟨l0, l1, l2, l3⟩ := ItemsIn.at hc hlt hx
      have hsx := hs x (hx ▸ getD_mem (by omega))
      have hok : Hid (okAt its k ↔ itB x.s x.t x.d x.n = true ∧ cntI x.s its ≤ 4 ∧ ∀ j, j < k → ¬ clash (its.getD j default) x) := by rw [Hid, okAt, hx]
      have hle := cntI_le x.s its
      obtain ⟨s, t, d, xp, xn, xc, xs⟩ := x
      dsimp only at l0 l1 l2 l3 hsx hok hle
      have C := specItemOk_any s t d xp xn xc wr hsx
      cases hb : itB s t d xn
      · rw [hb] at C
        have hr := hno.out k hlt (fun q => by have := (hok.out.1 q).1; rw [hb] at this; cases this)
        subst hr
        clear hno hall hok hdone hc hI hx hb
        go_wp2_with (fail)
        refine C.mono ?_
        rintro z w2 ⟨rfl, b2⟩
        have hbel2 := below_on hbel b2
        clear b2 hbel C
        go_wp2_with (fail)
        go_ret
        exact ⟨rfl, hbel2⟩
      · rw [hb] at C
        go_wp2_with (fail)
        refine C.mono ?_
        rintro z w2 ⟨rfl, b2⟩
        have hbel2 := below_on hbel b2
        have hI2 := itemsIn_on h hbel2
        obtain ⟨b', o', hpe, hc2⟩ := hI2 (by omega)
        simp only [Option.some.injEq, Addr.mk.injEq, and_true] at hpe
        obtain ⟨rfl, rfl⟩ := hpe
        obtain ⟨m0, m1, m2, m3⟩ := ItemsIn.at hc2 hlt hx
        dsimp only at m0 m1 m2 m3
        have C2 := specOfW_any (some ⟨b, o, none⟩) n c its s w2 hn hl hI2
        obtain ⟨cn, hcn⟩ : ∃ cn, cn = cntI s its := ⟨_, rfl⟩
        rw [← hcn] at C2
        replace hcn : Hid (cn = cntI s its) := hcn
        have hcl : cn ≤ 1048577 := by have := hcn.out; omega
        clear b2 hbel C hI hc l0 l1 l2 l3 hle
        by_cases h4 : (cn : Int) ≤ 4
        · go_wp2_with (fail)
          refine C2.mono ?_
          rintro z w3 ⟨rfl, rfl⟩
          clear C2
          go_wp2_with (fail)
          go_loopw [4] (fun i wr => ∃ j : Nat, j ≤ k ∧ i = .int .i64 j ∧ Hid (∀ l, l < j → ¬ clash (its.getD l default) ⟨s, t, d, xp, xn, xc, xs⟩) ∧ Below w.heap.size w wr) (fun i _ => k - (intOf i).toNat)
          case atStart => exact ⟨0, Nat.zero_le _, rfl, fun j hj => absurd hj (Nat.not_lt_zero _), hbel2⟩
          case round =>
            obtain ⟨j, hj, rfl, hcl2, hbelj⟩ := hrel
            obtain ⟨b', o', hpe, hcj⟩ := itemsIn_on h hbelj (by omega)
            simp only [Option.some.injEq, Addr.mk.injEq, and_true] at hpe
            obtain ⟨rfl, rfl⟩ := hpe
            by_cases hjk : j < k
            · obtain ⟨y, hy⟩ : ∃ y, its.getD j default = y := ⟨_, rfl⟩
              obtain ⟨n0, n1, n2, n3⟩ := ItemsIn.at hcj (show j < n by omega) hy
              obtain ⟨l0, l1, l2, l3⟩ := ItemsIn.at hcj hlt hx
              dsimp only at l0 l1 l2 l3
              have hmore : ¬ clash y ⟨s, t, d, xp, xn, xc, xs⟩ → Hid (∀ l, l < j + 1 → ¬ clash (its.getD l default) ⟨s, t, d, xp, xn, xc, xs⟩) := fun q l hl1 => by
                rcases Nat.lt_succ_iff_lt_or_eq.1 hl1 with e | e
                · exact hcl2.out l e
                · rw [e, hy]; exact q
              have hend : Hid (clash y ⟨s, t, d, xp, xn, xc, xs⟩ → R = false) := fun q => hno.out k hlt fun ok => (hok.out.1 ok).2.2 j hjk (by rw [hy]; exact q)
              obtain ⟨s', t', d', yp, yn, yc, ys⟩ := y
              dsimp only at n0 n1 n2 n3
              have hcl3 : clash ⟨s', t', d', yp, yn, yc, ys⟩ ⟨s, t, d, xp, xn, xc, xs⟩ ↔ s' = s ∧ t' = t ∧ 0 < t := Iff.rfl
              rw [hcl3] at hmore
              replace hend : Hid (s' = s ∧ t' = t ∧ 0 < t → R = false) := fun q => hend.out (hcl3.2 q)
              clear hcj hcl2 hcl3 hx hy hno hall hdone hI2 hc2 h hok m0 m1 m2 m3 hbel2
              by_cases e1 : s' = s
              · by_cases e2 : t' = t
                · by_cases e3 : 0 < t
                  · have hr := hend.out ⟨e1, e2, e3⟩
                    subst hr
                    subst e1 e2
                    clear hend hmore
                    go_wp2_with (fail)
                    go_quiet (fail)
                    go_wp2_with (fail)
                    go_ret
                    exact ⟨rfl, below_drewN hbelj _⟩
                  · replace hmore := hmore (fun q => e3 q.2.2)
                    subst e1 e2
                    clear hend
                    go_wp2_with (fail)
                    go_quiet (fail)
                    go_wp2_with (fail)
                    go_roundw
                    case rel => exact ⟨j + 1, by omega, by go_num, hmore, below_drewN hbelj _⟩
                    case measure => simp [intOf]; omega
                · replace hmore := hmore (fun q => e2 q.2.1)
                  subst e1
                  have e2' : (t' == t) = false := by simp [e2]
                  clear hend e2
                  go_wp2_with (fail)
                  go_quiet (fail)
                  go_wp2_with (fail)
                  go_roundw
                  case rel => exact ⟨j + 1, by omega, by go_num, hmore, below_drewN hbelj _⟩
                  case measure => simp [intOf]; omega
              · replace hmore := hmore (fun q => e1 q.1)
                have e1' := str_ne e1
                clear hend e1
                go_wp2_with (fail)
                go_quiet (fail)
                go_wp2_with (fail)
                go_roundw
                case rel => exact ⟨j + 1, by omega, by go_num, hmore, below_drewN hbelj _⟩
                case measure => simp [intOf]; omega
            · have hjk2 : j = k := by omega
              subst hjk2
              have hokk : Hid (∀ l, l < j + 1 → okAt its l) := fun l hl1 => by
                rcases Nat.lt_succ_iff_lt_or_eq.1 hl1 with e | e
                · exact hdone.out l e
                · rw [e]; exact hok.out.2 ⟨hb, by have := hcn.out; omega, hcl2.out⟩
              clear hcj hx hno hall hdone hI2 hc2 h hok m0 m1 m2 m3 hbel2 hcl2 hb hcn
              go_wp2_with (fail)
              go_roundw
              case rel => exact ⟨j + 1, by omega, by go_num, hokk, hbelj⟩
              case measure => simp [intOf]; omega
        · have hr := hno.out k hlt (fun q => by have := (hok.out.1 q).2.1; have := hcn.out; omega)
          subst hr
          clear hno hall hok hdone hx hb hcn hc2 hI2
          go_wp2_with (fail)
          refine C2.mono ?_
          rintro z w3 ⟨rfl, rfl⟩
          go_wp2_with (fail)
          go_ret
          exact ⟨rfl, hbel2⟩
    · have hkn : k = n := by omega
      subst hkn
      by_cases e : (k : Int) ≤ 10
      · have hr : R = true := by rw [hall.out hdone]; exact decide_eq_true (by omega)
        subst hr
        clear hno hall hdone
        go_wp2_with (fail)
        go_ret
        exact ⟨rfl, hbel⟩
      · have hr : R = false := by rw [hall.out hdone]; exact decide_eq_false (by omega)
        subst hr
        clear hno hall hdone
        go_wp2_with (fail)
        go_ret
        exact ⟨rfl, hbel⟩

theorem implQueueOkW_any (p : Option Addr) (n c : Nat) (its : List ItA) (w : World) (hn : n ≤ 1048577) (hl : its.length = n) (h : ItemsIn w p n its) (hs : ∀ x ∈ its, x.s.size ≤ 1048576) :
    Calls Tryz.prog 105 #[.slice p n c] w fun e w' => e = .returned (.bool (qB its)) ∧ Below w.heap.size w w' := by
  by_cases h10 : n ≤ 10
  · exact implQueueOk_any p n c its w (by omega) hl h hs
  · have hr : qB its = false := qB_false fun q => h10 (by have := q.1; omega)
    rw [hr]
    have h11 : (10 : Int) < (n : Int) := by omega
    clear h hl hs hr h10
    go_enter Tryz.func105, Tryz.ntmps105
    go_wp2_with (fail)
    go_ret
    exact ⟨rfl, Below.refl _ _⟩

end Go.Proofs.YthfnechcddmjkaaGreatDoor
