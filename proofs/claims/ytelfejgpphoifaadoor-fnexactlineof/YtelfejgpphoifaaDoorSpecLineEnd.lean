/-
  What the specification's LineOf does behind the making of its line, whatever way it was made. Conditions: what stands there.
-/
import Derived.Test.YtelfejgpphoifaaDoorSpecLineOf
import Derived.Test.YtelfejgpphoifaaDoorFreshAll
namespace Go.Proofs.YtelfejgpphoifaaDoor
open Go.RowKit
set_option maxRecDepth 100000

def snd : Code → Code
  | .seq _ b => b
  | c => c
def bodyOf (f : Func) : Code := f.body.getD .skip

set_option maxHeartbeats 16000000 in
theorem specLineOf_end (w V : World) (g o n c a B M LN AX SZ A18 ge ce : Nat) (K T DD : Int) (HS S : ByteArray) (XS LL : List Int) (Q : Bool) (R : Ending → World → Prop) (t2 t3 t5 t6 t8 t10 t11 t12 t13 t14 t15 t16 t17 t18 t19 t20 t21 t22 t23 t24 t25 t26 t27 t28 t29 t30 t31 t32 t33 t34 t35 t36 t37 t38 t39 t40 t41 t42 t43 t44 t45 t46 t47 t48 t49 t50 t51 t52 t53 t54 t55 t56 t57 t58 t59 t60 t61 t62 t63 t64 t65 t66 t67 t68 t69 t70 t71 t72 t73 t74 t75 t76 t77 t78 t79 t80 : Value)
    (C0 : Cells V w.heap.size #[.int .i64 0, .string { data := #[] }, .int .i64 0, .int .i64 0, .slice none 0 0]) (CV : Cells V B #[.int .i64 K, .string HS, .int .i64 T, .int .i64 DD, .slice (some ⟨ge, 0, none⟩) M ce]) (rV : RowAt V ge ce M XS) (hne : ge ≠ B) (hnz : ge ≠ w.heap.size) (hgV : ge < V.heap.size) (hB : w.heap.size < B) (kV : Below w.heap.size w V)
    (hS : Hid (S = if K = 3 then ByteArray.empty else HS))
    (LB : ∀ (X : World) (p' : Option Addr) (c' : Nat), BytesIn X p' M XS → Calls Tryd.prog 15 #[.agg #[.int .i64 K, .string S, .int .i64 T, .int .i64 DD, .slice p' M c']] X fun z w' => ∃ q cq, z = .returned (.slice q LN cq) ∧ Own 5 w' X.heap.size w'.heap.size (.slice q LN cq) LN LL ∧ Below X.heap.size X w')
    (SM : ∀ (X : World) (q : Option Addr) (cq : Nat), LL.length = LN → BytesIn X q LN LL → Below w.heap.size w X → Calls Tryd.prog 14 #[.slice q LN cq, .slice (some ⟨g, o + a, none⟩) SZ (c - a)] X fun e w' => e = .returned (.bool Q) ∧ Below X.heap.size X w')
    (s18 : ∀ W, (Instr.slice 22 (.slice (some ⟨g, o, none⟩) n c) (some (.int .i64 (a : Int))) (some (.int .i64 (AX : Int))) none).run Tryd.prog W = .ok (.slice (some ⟨g, o + a, none⟩) SZ (c - a)) W) (w18 : IntKind.i64.wrap ((a : Int) + 18) = (A18 : Int)) (wX : IntKind.i64.wrap ((A18 : Int) + (M : Int)) = (AX : Int))
    (hR1 : Q = true → ∀ X, RowAt X ge ce M XS → Below w.heap.size w X → ge < X.heap.size → R (.returned (.tuple #[.agg #[.int .i64 K, .string S, .int .i64 T, .int .i64 DD, .slice (some ⟨ge, 0, none⟩) M ce], .int .i64 (AX : Int), .bool true])) X)
    (hR0 : Q = false → ∀ X, RowAt X ge ce M XS → Below w.heap.size w X → ge < X.heap.size → R (.returned (.tuple #[.agg #[.int .i64 0, .string { data := #[] }, .int .i64 0, .int .i64 0, .slice none 0 0], .int .i64 0, .bool false])) X) :
    Code.wp Tryd.prog (snd (snd (snd (snd (snd (snd (bodyOf Tryd.f4))))))) (bodyPost Tryd.prog Tryd.f4 R) { tmps := #[.slice (some ⟨g, o, none⟩) n c, .int .i64 (a : Int), t2, t3, .pointer (some ⟨w.heap.size, 0, none⟩), t5, t6, .int .i64 (M : Int), t8, .pointer (some ⟨B, 0, none⟩), t10, t11, t12, t13, t14, t15, t16, t17, t18, t19, t20, t21, t22, t23, t24, t25, t26, t27, t28, t29, t30, t31, t32, t33, t34, t35, t36, t37, t38, t39, t40, t41, t42, t43, t44, t45, t46, t47, t48, t49, t50, t51, t52, t53, t54, t55, t56, t57, t58, t59, t60, t61, t62, t63, t64, t65, t66, t67, t68, t69, t70, t71, t72, t73, t74, t75, t76, t77, t78, t79, t80, undef, undef, undef, undef, undef, undef, undef, undef, undef, undef, undef, undef, undef, undef, undef, undef, undef, undef, undef, undef, undef], defers := [] } V := by
  have hBz : w.heap.size ≠ B := by omega
  have cB0 : V.cell? ⟨B, 0, none⟩ = some (.int .i64 K) := (CV.2 0).1
  have c1 : V.cell? ⟨B, 1, none⟩ = some (.string HS) := (CV.2 1).1
  have f1 := (CV.2 1).2
  dsimp only [snd, bodyOf, Tryd.f4, Option.getD_some]
  by_cases h3 : K = 3
  · have h3' : (K == 3) = true := by simp [h3]
    have hs3 : S = { data := #[] } := by rw [hS.out, if_pos h3]; rfl
    obtain ⟨U, hU⟩ : ∃ U, U = V.setCell ⟨B, 1, none⟩ (.string { data := #[] }) := ⟨_, rfl⟩
    have CU : Cells U B #[.int .i64 K, .string S, .int .i64 T, .int .i64 DD, .slice (some ⟨ge, 0, none⟩) M ce] := by rw [hU, hs3]; exact CV.set 1 (by simp) _
    have CZ : Cells U w.heap.size #[.int .i64 0, .string { data := #[] }, .int .i64 0, .int .i64 0, .slice none 0 0] := by rw [hU]; exact C0.other _ hBz
    have kU : Below w.heap.size w U := by rw [hU]; exact kV.setCell (p := ⟨B, 1, none⟩) (Nat.le_of_lt hB) _
    have rU : RowAt U ge ce M XS := by rw [hU]; exact rowAt_grown rV (set_grown _ _ _ _) hne
    have hgU : ge < U.heap.size := by rw [hU]; simpa using hgV
    replace hU : Hid (V.setCell ⟨B, 1, none⟩ (.string { data := #[] }) = U) := hU.symm
    clear hs3 hS CV h3 C0
    go_wp2_with (rw [hU.out])
    clear hU c1 f1 cB0 kV rV hgV
    have HK : ∀ w1, Below U.heap.size U w1 → w1.cell? ⟨B, 0, none⟩ = some (.int .i64 K) ∧ w1.cell? ⟨B, 1, none⟩ = some (.string S) ∧ w1.cell? ⟨B, 2, none⟩ = some (.int .i64 T) ∧ w1.cell? ⟨B, 3, none⟩ = some (.int .i64 DD) ∧ w1.cell? ⟨B, 4, none⟩ = some (.slice (some ⟨ge, 0, none⟩) M ce) := fun w1 hX => ⟨((CU.on hX).2 0).1, ((CU.on hX).2 1).1, ((CU.on hX).2 2).1, ((CU.on hX).2 3).1, ((CU.on hX).2 4).1⟩
    have bdr : Below U.heap.size U U.drew := (Below.refl _ _).drew
    go_region_held3 (fun w1 => w1.cell? ⟨B, 0, none⟩ = some (.int .i64 K) ∧ w1.cell? ⟨B, 1, none⟩ = some (.string S) ∧ w1.cell? ⟨B, 2, none⟩ = some (.int .i64 T) ∧ w1.cell? ⟨B, 3, none⟩ = some (.int .i64 DD) ∧ w1.cell? ⟨B, 4, none⟩ = some (.slice (some ⟨ge, 0, none⟩) M ce)) (exact HK _ (by repeat (with_reducible (first | exact Below.refl _ _ | refine below_drewL ?_ | refine below_on ?_ bq2 | refine below_on ?_ bq1)))) (first | (go_at_call 15; refine (LB _ _ _ (in_below rU.own.bytes (by repeat (with_reducible (first | exact Below.refl _ _ | refine below_drewL ?_ | refine below_on ?_ bq2 | refine below_on ?_ bq1))))).mono ?_; rintro z wq1 ⟨pq, cq, rfl, rq, bq1⟩) | (go_at_call 14; refine (SM _ _ _ rq.len (in_below rq.bytes (by repeat (with_reducible (first | exact Below.refl _ _ | refine below_drewL ?_ | refine below_on ?_ bq2 | refine below_on ?_ bq1)))) (below_on kU (by repeat (with_reducible (first | exact Below.refl _ _ | refine below_drewL ?_ | refine below_on ?_ bq2 | refine below_on ?_ bq1))))).mono ?_; rintro z wq2 ⟨rfl, bq2⟩))
    all_goals
      have bU : Below U.heap.size U wq2 := below_on (below_on bdr bq1) bq2
      have k2 := below_on kU bU
      have C2 := CU.on bU
      have Z2 := CZ.on bU
      have r2 := rowAt_below rU bU
      have hg2 := Nat.lt_of_lt_of_le hgU bU.size
      clear bq1 bq2 bdr HK rq CU rU LB SM CZ
      cases Q
      · have q0 : (wq2).cell? ⟨w.heap.size, 0, none⟩ = some (.int .i64 0) := (Z2.2 0).1
        have u0 := (Z2.2 0).2
        have E1 := Z2.set 0 (by simp) (.int .i64 0)
        have q1 : (wq2.setCell ⟨w.heap.size, 0, none⟩ (.int .i64 0)).cell? ⟨w.heap.size, 1, none⟩ = some (.string { data := #[] }) := (E1.2 1).1
        have u1 := (E1.2 1).2
        have E2 := E1.set 1 (by simp) (.string { data := #[] })
        have q2 : ((wq2.setCell ⟨w.heap.size, 0, none⟩ (.int .i64 0)).setCell ⟨w.heap.size, 1, none⟩ (.string { data := #[] })).cell? ⟨w.heap.size, 2, none⟩ = some (.int .i64 0) := (E2.2 2).1
        have u2 := (E2.2 2).2
        have E3 := E2.set 2 (by simp) (.int .i64 0)
        have q3 : (((wq2.setCell ⟨w.heap.size, 0, none⟩ (.int .i64 0)).setCell ⟨w.heap.size, 1, none⟩ (.string { data := #[] })).setCell ⟨w.heap.size, 2, none⟩ (.int .i64 0)).cell? ⟨w.heap.size, 3, none⟩ = some (.int .i64 0) := (E3.2 3).1
        have u3 := (E3.2 3).2
        have E4 := E3.set 3 (by simp) (.int .i64 0)
        have q4 : ((((wq2.setCell ⟨w.heap.size, 0, none⟩ (.int .i64 0)).setCell ⟨w.heap.size, 1, none⟩ (.string { data := #[] })).setCell ⟨w.heap.size, 2, none⟩ (.int .i64 0)).setCell ⟨w.heap.size, 3, none⟩ (.int .i64 0)).cell? ⟨w.heap.size, 4, none⟩ = some (.slice none 0 0) := (E4.2 4).1
        have u4 := (E4.2 4).2
        have E5 := E4.set 4 (by simp) (.slice none 0 0)
        obtain ⟨X, hX⟩ : ∃ X, X = ((((wq2.setCell ⟨w.heap.size, 0, none⟩ (.int .i64 0)).setCell ⟨w.heap.size, 1, none⟩ (.string { data := #[] })).setCell ⟨w.heap.size, 2, none⟩ (.int .i64 0)).setCell ⟨w.heap.size, 3, none⟩ (.int .i64 0)).setCell ⟨w.heap.size, 4, none⟩ (.slice none 0 0) := ⟨_, rfl⟩
        rw [← hX] at E5
        have kX : Below w.heap.size w X := by rw [hX]; exact (below_setB (below_setB (below_setB (below_setB (below_setB k2 (Nat.le_refl _) _) (Nat.le_refl _) _) (Nat.le_refl _) _) (Nat.le_refl _) _) (Nat.le_refl _) _)
        have rX : RowAt X ge ce M XS := by rw [hX]; exact (rowAt_grown (rowAt_grown (rowAt_grown (rowAt_grown (rowAt_grown r2 (set_grown _ _ _ _) hnz) (set_grown _ _ _ _) hnz) (set_grown _ _ _ _) hnz) (set_grown _ _ _ _) hnz) (set_grown _ _ _ _) hnz)
        have gX : ge < X.heap.size := by rw [hX]; simpa using hg2
        have e0 : X.cell? ⟨w.heap.size, 0, none⟩ = some (.int .i64 0) := (E5.2 0).1
        have e1 : X.cell? ⟨w.heap.size, 1, none⟩ = some (.string { data := #[] }) := (E5.2 1).1
        have e2 : X.cell? ⟨w.heap.size, 2, none⟩ = some (.int .i64 0) := (E5.2 2).1
        have e3 : X.cell? ⟨w.heap.size, 3, none⟩ = some (.int .i64 0) := (E5.2 3).1
        have e4 : X.cell? ⟨w.heap.size, 4, none⟩ = some (.slice none 0 0) := (E5.2 4).1
        replace hX : Hid (((((wq2.setCell ⟨w.heap.size, 0, none⟩ (.int .i64 0)).setCell ⟨w.heap.size, 1, none⟩ (.string { data := #[] })).setCell ⟨w.heap.size, 2, none⟩ (.int .i64 0)).setCell ⟨w.heap.size, 3, none⟩ (.int .i64 0)).setCell ⟨w.heap.size, 4, none⟩ (.slice none 0 0) = X) := hX.symm
        clear E1 E2 E3 E4 E5 Z2
        clear C2
        go_wp2_with (rw [hX.out])
        refine bodyPost_ret (v := (.tuple #[.agg #[.int .i64 0, .string { data := #[] }, .int .i64 0, .int .i64 0, .slice none 0 0], .int .i64 0, .bool false])) ?_ rfl (hR0 (by trivial) X rX kX gX)
        simp only [results]
        go_simp
      · have q0 : (wq2).cell? ⟨w.heap.size, 0, none⟩ = some (.int .i64 0) := (Z2.2 0).1
        have u0 := (Z2.2 0).2
        have E1 := Z2.set 0 (by simp) (.int .i64 K)
        have q1 : (wq2.setCell ⟨w.heap.size, 0, none⟩ (.int .i64 K)).cell? ⟨w.heap.size, 1, none⟩ = some (.string { data := #[] }) := (E1.2 1).1
        have u1 := (E1.2 1).2
        have E2 := E1.set 1 (by simp) (.string S)
        have q2 : ((wq2.setCell ⟨w.heap.size, 0, none⟩ (.int .i64 K)).setCell ⟨w.heap.size, 1, none⟩ (.string S)).cell? ⟨w.heap.size, 2, none⟩ = some (.int .i64 0) := (E2.2 2).1
        have u2 := (E2.2 2).2
        have E3 := E2.set 2 (by simp) (.int .i64 T)
        have q3 : (((wq2.setCell ⟨w.heap.size, 0, none⟩ (.int .i64 K)).setCell ⟨w.heap.size, 1, none⟩ (.string S)).setCell ⟨w.heap.size, 2, none⟩ (.int .i64 T)).cell? ⟨w.heap.size, 3, none⟩ = some (.int .i64 0) := (E3.2 3).1
        have u3 := (E3.2 3).2
        have E4 := E3.set 3 (by simp) (.int .i64 DD)
        have q4 : ((((wq2.setCell ⟨w.heap.size, 0, none⟩ (.int .i64 K)).setCell ⟨w.heap.size, 1, none⟩ (.string S)).setCell ⟨w.heap.size, 2, none⟩ (.int .i64 T)).setCell ⟨w.heap.size, 3, none⟩ (.int .i64 DD)).cell? ⟨w.heap.size, 4, none⟩ = some (.slice none 0 0) := (E4.2 4).1
        have u4 := (E4.2 4).2
        have E5 := E4.set 4 (by simp) (.slice (some ⟨ge, 0, none⟩) M ce)
        obtain ⟨X, hX⟩ : ∃ X, X = ((((wq2.setCell ⟨w.heap.size, 0, none⟩ (.int .i64 K)).setCell ⟨w.heap.size, 1, none⟩ (.string S)).setCell ⟨w.heap.size, 2, none⟩ (.int .i64 T)).setCell ⟨w.heap.size, 3, none⟩ (.int .i64 DD)).setCell ⟨w.heap.size, 4, none⟩ (.slice (some ⟨ge, 0, none⟩) M ce) := ⟨_, rfl⟩
        rw [← hX] at E5
        have kX : Below w.heap.size w X := by rw [hX]; exact (below_setB (below_setB (below_setB (below_setB (below_setB k2 (Nat.le_refl _) _) (Nat.le_refl _) _) (Nat.le_refl _) _) (Nat.le_refl _) _) (Nat.le_refl _) _)
        have rX : RowAt X ge ce M XS := by rw [hX]; exact (rowAt_grown (rowAt_grown (rowAt_grown (rowAt_grown (rowAt_grown r2 (set_grown _ _ _ _) hnz) (set_grown _ _ _ _) hnz) (set_grown _ _ _ _) hnz) (set_grown _ _ _ _) hnz) (set_grown _ _ _ _) hnz)
        have gX : ge < X.heap.size := by rw [hX]; simpa using hg2
        have e0 : X.cell? ⟨w.heap.size, 0, none⟩ = some (.int .i64 K) := (E5.2 0).1
        have e1 : X.cell? ⟨w.heap.size, 1, none⟩ = some (.string S) := (E5.2 1).1
        have e2 : X.cell? ⟨w.heap.size, 2, none⟩ = some (.int .i64 T) := (E5.2 2).1
        have e3 : X.cell? ⟨w.heap.size, 3, none⟩ = some (.int .i64 DD) := (E5.2 3).1
        have e4 : X.cell? ⟨w.heap.size, 4, none⟩ = some (.slice (some ⟨ge, 0, none⟩) M ce) := (E5.2 4).1
        replace hX : Hid (((((wq2.setCell ⟨w.heap.size, 0, none⟩ (.int .i64 K)).setCell ⟨w.heap.size, 1, none⟩ (.string S)).setCell ⟨w.heap.size, 2, none⟩ (.int .i64 T)).setCell ⟨w.heap.size, 3, none⟩ (.int .i64 DD)).setCell ⟨w.heap.size, 4, none⟩ (.slice (some ⟨ge, 0, none⟩) M ce) = X) := hX.symm
        clear E1 E2 E3 E4 E5 Z2
        have d0 : wq2.cell? ⟨B, 0, none⟩ = some (.int .i64 K) := (C2.2 0).1
        have d1 : wq2.cell? ⟨B, 1, none⟩ = some (.string S) := (C2.2 1).1
        have d2 : wq2.cell? ⟨B, 2, none⟩ = some (.int .i64 T) := (C2.2 2).1
        have d3 : wq2.cell? ⟨B, 3, none⟩ = some (.int .i64 DD) := (C2.2 3).1
        have d4 : wq2.cell? ⟨B, 4, none⟩ = some (.slice (some ⟨ge, 0, none⟩) M ce) := (C2.2 4).1
        clear C2
        go_wp2_with (rw [hX.out])
        refine bodyPost_ret (v := (.tuple #[.agg #[.int .i64 K, .string S, .int .i64 T, .int .i64 DD, .slice (some ⟨ge, 0, none⟩) M ce], .int .i64 (AX : Int), .bool true])) ?_ rfl (hR1 (by trivial) X rX kX gX)
        simp only [results]
        go_simp
  · have h3' : (K == 3) = false := by simp [h3]
    have hs3 : S = HS := by rw [hS.out, if_neg h3]
    clear h3 hS c1 f1
    go_wp2_with (fail)
    obtain ⟨U, hU⟩ : ∃ U, U = V := ⟨_, rfl⟩
    have CU : Cells U B #[.int .i64 K, .string S, .int .i64 T, .int .i64 DD, .slice (some ⟨ge, 0, none⟩) M ce] := by rw [hU, hs3]; exact CV
    have CZ : Cells U w.heap.size #[.int .i64 0, .string { data := #[] }, .int .i64 0, .int .i64 0, .slice none 0 0] := by rw [hU]; exact C0
    have kU : Below w.heap.size w U := by rw [hU]; exact kV
    have rU : RowAt U ge ce M XS := by rw [hU]; exact rV
    have hgU : ge < U.heap.size := by rw [hU]; exact hgV
    rw [← hU]
    clear hU hs3 cB0 CV kV rV hgV C0
    have HK : ∀ w1, Below U.heap.size U w1 → w1.cell? ⟨B, 0, none⟩ = some (.int .i64 K) ∧ w1.cell? ⟨B, 1, none⟩ = some (.string S) ∧ w1.cell? ⟨B, 2, none⟩ = some (.int .i64 T) ∧ w1.cell? ⟨B, 3, none⟩ = some (.int .i64 DD) ∧ w1.cell? ⟨B, 4, none⟩ = some (.slice (some ⟨ge, 0, none⟩) M ce) := fun w1 hX => ⟨((CU.on hX).2 0).1, ((CU.on hX).2 1).1, ((CU.on hX).2 2).1, ((CU.on hX).2 3).1, ((CU.on hX).2 4).1⟩
    have bdr : Below U.heap.size U U.drew := (Below.refl _ _).drew
    go_region_held3 (fun w1 => w1.cell? ⟨B, 0, none⟩ = some (.int .i64 K) ∧ w1.cell? ⟨B, 1, none⟩ = some (.string S) ∧ w1.cell? ⟨B, 2, none⟩ = some (.int .i64 T) ∧ w1.cell? ⟨B, 3, none⟩ = some (.int .i64 DD) ∧ w1.cell? ⟨B, 4, none⟩ = some (.slice (some ⟨ge, 0, none⟩) M ce)) (exact HK _ (by repeat (with_reducible (first | exact Below.refl _ _ | refine below_drewL ?_ | refine below_on ?_ bq2 | refine below_on ?_ bq1)))) (first | (go_at_call 15; refine (LB _ _ _ (in_below rU.own.bytes (by repeat (with_reducible (first | exact Below.refl _ _ | refine below_drewL ?_ | refine below_on ?_ bq2 | refine below_on ?_ bq1))))).mono ?_; rintro z wq1 ⟨pq, cq, rfl, rq, bq1⟩) | (go_at_call 14; refine (SM _ _ _ rq.len (in_below rq.bytes (by repeat (with_reducible (first | exact Below.refl _ _ | refine below_drewL ?_ | refine below_on ?_ bq2 | refine below_on ?_ bq1)))) (below_on kU (by repeat (with_reducible (first | exact Below.refl _ _ | refine below_drewL ?_ | refine below_on ?_ bq2 | refine below_on ?_ bq1))))).mono ?_; rintro z wq2 ⟨rfl, bq2⟩))
    all_goals
      have bU : Below U.heap.size U wq2 := below_on (below_on bdr bq1) bq2
      have k2 := below_on kU bU
      have C2 := CU.on bU
      have Z2 := CZ.on bU
      have r2 := rowAt_below rU bU
      have hg2 := Nat.lt_of_lt_of_le hgU bU.size
      clear bq1 bq2 bdr HK rq CU rU LB SM CZ
      cases Q
      · have q0 : (wq2).cell? ⟨w.heap.size, 0, none⟩ = some (.int .i64 0) := (Z2.2 0).1
        have u0 := (Z2.2 0).2
        have E1 := Z2.set 0 (by simp) (.int .i64 0)
        have q1 : (wq2.setCell ⟨w.heap.size, 0, none⟩ (.int .i64 0)).cell? ⟨w.heap.size, 1, none⟩ = some (.string { data := #[] }) := (E1.2 1).1
        have u1 := (E1.2 1).2
        have E2 := E1.set 1 (by simp) (.string { data := #[] })
        have q2 : ((wq2.setCell ⟨w.heap.size, 0, none⟩ (.int .i64 0)).setCell ⟨w.heap.size, 1, none⟩ (.string { data := #[] })).cell? ⟨w.heap.size, 2, none⟩ = some (.int .i64 0) := (E2.2 2).1
        have u2 := (E2.2 2).2
        have E3 := E2.set 2 (by simp) (.int .i64 0)
        have q3 : (((wq2.setCell ⟨w.heap.size, 0, none⟩ (.int .i64 0)).setCell ⟨w.heap.size, 1, none⟩ (.string { data := #[] })).setCell ⟨w.heap.size, 2, none⟩ (.int .i64 0)).cell? ⟨w.heap.size, 3, none⟩ = some (.int .i64 0) := (E3.2 3).1
        have u3 := (E3.2 3).2
        have E4 := E3.set 3 (by simp) (.int .i64 0)
        have q4 : ((((wq2.setCell ⟨w.heap.size, 0, none⟩ (.int .i64 0)).setCell ⟨w.heap.size, 1, none⟩ (.string { data := #[] })).setCell ⟨w.heap.size, 2, none⟩ (.int .i64 0)).setCell ⟨w.heap.size, 3, none⟩ (.int .i64 0)).cell? ⟨w.heap.size, 4, none⟩ = some (.slice none 0 0) := (E4.2 4).1
        have u4 := (E4.2 4).2
        have E5 := E4.set 4 (by simp) (.slice none 0 0)
        obtain ⟨X, hX⟩ : ∃ X, X = ((((wq2.setCell ⟨w.heap.size, 0, none⟩ (.int .i64 0)).setCell ⟨w.heap.size, 1, none⟩ (.string { data := #[] })).setCell ⟨w.heap.size, 2, none⟩ (.int .i64 0)).setCell ⟨w.heap.size, 3, none⟩ (.int .i64 0)).setCell ⟨w.heap.size, 4, none⟩ (.slice none 0 0) := ⟨_, rfl⟩
        rw [← hX] at E5
        have kX : Below w.heap.size w X := by rw [hX]; exact (below_setB (below_setB (below_setB (below_setB (below_setB k2 (Nat.le_refl _) _) (Nat.le_refl _) _) (Nat.le_refl _) _) (Nat.le_refl _) _) (Nat.le_refl _) _)
        have rX : RowAt X ge ce M XS := by rw [hX]; exact (rowAt_grown (rowAt_grown (rowAt_grown (rowAt_grown (rowAt_grown r2 (set_grown _ _ _ _) hnz) (set_grown _ _ _ _) hnz) (set_grown _ _ _ _) hnz) (set_grown _ _ _ _) hnz) (set_grown _ _ _ _) hnz)
        have gX : ge < X.heap.size := by rw [hX]; simpa using hg2
        have e0 : X.cell? ⟨w.heap.size, 0, none⟩ = some (.int .i64 0) := (E5.2 0).1
        have e1 : X.cell? ⟨w.heap.size, 1, none⟩ = some (.string { data := #[] }) := (E5.2 1).1
        have e2 : X.cell? ⟨w.heap.size, 2, none⟩ = some (.int .i64 0) := (E5.2 2).1
        have e3 : X.cell? ⟨w.heap.size, 3, none⟩ = some (.int .i64 0) := (E5.2 3).1
        have e4 : X.cell? ⟨w.heap.size, 4, none⟩ = some (.slice none 0 0) := (E5.2 4).1
        replace hX : Hid (((((wq2.setCell ⟨w.heap.size, 0, none⟩ (.int .i64 0)).setCell ⟨w.heap.size, 1, none⟩ (.string { data := #[] })).setCell ⟨w.heap.size, 2, none⟩ (.int .i64 0)).setCell ⟨w.heap.size, 3, none⟩ (.int .i64 0)).setCell ⟨w.heap.size, 4, none⟩ (.slice none 0 0) = X) := hX.symm
        clear E1 E2 E3 E4 E5 Z2
        clear C2
        go_wp2_with (rw [hX.out])
        refine bodyPost_ret (v := (.tuple #[.agg #[.int .i64 0, .string { data := #[] }, .int .i64 0, .int .i64 0, .slice none 0 0], .int .i64 0, .bool false])) ?_ rfl (hR0 (by trivial) X rX kX gX)
        simp only [results]
        go_simp
      · have q0 : (wq2).cell? ⟨w.heap.size, 0, none⟩ = some (.int .i64 0) := (Z2.2 0).1
        have u0 := (Z2.2 0).2
        have E1 := Z2.set 0 (by simp) (.int .i64 K)
        have q1 : (wq2.setCell ⟨w.heap.size, 0, none⟩ (.int .i64 K)).cell? ⟨w.heap.size, 1, none⟩ = some (.string { data := #[] }) := (E1.2 1).1
        have u1 := (E1.2 1).2
        have E2 := E1.set 1 (by simp) (.string S)
        have q2 : ((wq2.setCell ⟨w.heap.size, 0, none⟩ (.int .i64 K)).setCell ⟨w.heap.size, 1, none⟩ (.string S)).cell? ⟨w.heap.size, 2, none⟩ = some (.int .i64 0) := (E2.2 2).1
        have u2 := (E2.2 2).2
        have E3 := E2.set 2 (by simp) (.int .i64 T)
        have q3 : (((wq2.setCell ⟨w.heap.size, 0, none⟩ (.int .i64 K)).setCell ⟨w.heap.size, 1, none⟩ (.string S)).setCell ⟨w.heap.size, 2, none⟩ (.int .i64 T)).cell? ⟨w.heap.size, 3, none⟩ = some (.int .i64 0) := (E3.2 3).1
        have u3 := (E3.2 3).2
        have E4 := E3.set 3 (by simp) (.int .i64 DD)
        have q4 : ((((wq2.setCell ⟨w.heap.size, 0, none⟩ (.int .i64 K)).setCell ⟨w.heap.size, 1, none⟩ (.string S)).setCell ⟨w.heap.size, 2, none⟩ (.int .i64 T)).setCell ⟨w.heap.size, 3, none⟩ (.int .i64 DD)).cell? ⟨w.heap.size, 4, none⟩ = some (.slice none 0 0) := (E4.2 4).1
        have u4 := (E4.2 4).2
        have E5 := E4.set 4 (by simp) (.slice (some ⟨ge, 0, none⟩) M ce)
        obtain ⟨X, hX⟩ : ∃ X, X = ((((wq2.setCell ⟨w.heap.size, 0, none⟩ (.int .i64 K)).setCell ⟨w.heap.size, 1, none⟩ (.string S)).setCell ⟨w.heap.size, 2, none⟩ (.int .i64 T)).setCell ⟨w.heap.size, 3, none⟩ (.int .i64 DD)).setCell ⟨w.heap.size, 4, none⟩ (.slice (some ⟨ge, 0, none⟩) M ce) := ⟨_, rfl⟩
        rw [← hX] at E5
        have kX : Below w.heap.size w X := by rw [hX]; exact (below_setB (below_setB (below_setB (below_setB (below_setB k2 (Nat.le_refl _) _) (Nat.le_refl _) _) (Nat.le_refl _) _) (Nat.le_refl _) _) (Nat.le_refl _) _)
        have rX : RowAt X ge ce M XS := by rw [hX]; exact (rowAt_grown (rowAt_grown (rowAt_grown (rowAt_grown (rowAt_grown r2 (set_grown _ _ _ _) hnz) (set_grown _ _ _ _) hnz) (set_grown _ _ _ _) hnz) (set_grown _ _ _ _) hnz) (set_grown _ _ _ _) hnz)
        have gX : ge < X.heap.size := by rw [hX]; simpa using hg2
        have e0 : X.cell? ⟨w.heap.size, 0, none⟩ = some (.int .i64 K) := (E5.2 0).1
        have e1 : X.cell? ⟨w.heap.size, 1, none⟩ = some (.string S) := (E5.2 1).1
        have e2 : X.cell? ⟨w.heap.size, 2, none⟩ = some (.int .i64 T) := (E5.2 2).1
        have e3 : X.cell? ⟨w.heap.size, 3, none⟩ = some (.int .i64 DD) := (E5.2 3).1
        have e4 : X.cell? ⟨w.heap.size, 4, none⟩ = some (.slice (some ⟨ge, 0, none⟩) M ce) := (E5.2 4).1
        replace hX : Hid (((((wq2.setCell ⟨w.heap.size, 0, none⟩ (.int .i64 K)).setCell ⟨w.heap.size, 1, none⟩ (.string S)).setCell ⟨w.heap.size, 2, none⟩ (.int .i64 T)).setCell ⟨w.heap.size, 3, none⟩ (.int .i64 DD)).setCell ⟨w.heap.size, 4, none⟩ (.slice (some ⟨ge, 0, none⟩) M ce) = X) := hX.symm
        clear E1 E2 E3 E4 E5 Z2
        have d0 : wq2.cell? ⟨B, 0, none⟩ = some (.int .i64 K) := (C2.2 0).1
        have d1 : wq2.cell? ⟨B, 1, none⟩ = some (.string S) := (C2.2 1).1
        have d2 : wq2.cell? ⟨B, 2, none⟩ = some (.int .i64 T) := (C2.2 2).1
        have d3 : wq2.cell? ⟨B, 3, none⟩ = some (.int .i64 DD) := (C2.2 3).1
        have d4 : wq2.cell? ⟨B, 4, none⟩ = some (.slice (some ⟨ge, 0, none⟩) M ce) := (C2.2 4).1
        clear C2
        go_wp2_with (rw [hX.out])
        refine bodyPost_ret (v := (.tuple #[.agg #[.int .i64 K, .string S, .int .i64 T, .int .i64 DD, .slice (some ⟨ge, 0, none⟩) M ce], .int .i64 (AX : Int), .bool true])) ?_ rfl (hR1 (by trivial) X rX kX gX)
        simp only [results]
        go_simp

end Go.Proofs.YtelfejgpphoifaaDoor
