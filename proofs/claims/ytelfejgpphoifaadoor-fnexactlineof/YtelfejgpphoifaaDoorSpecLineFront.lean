/-
  The specification's LineOf up to the making of its line, where there are bytes enough; what follows is a premise. Conditions: bytes that lie there, as many as a law hands over.
-/
import Derived.Test.YtelfejgpphoifaaDoorSpecLineEnd
namespace Go.Proofs.YtelfejgpphoifaaDoor
open Go.RowKit
set_option maxRecDepth 100000

set_option maxHeartbeats 16000000 in
theorem specLineOf_front (g o n c : Nat) (bs : List Int) (a : Nat) (w : World) (hn : n ≤ 1048576) (hx : bs.length = n) (h : BytesIn w (some ⟨g, o, none⟩) n bs) (hb : ∀ x ∈ bs, 0 ≤ x ∧ x < 256) (hc : n ≤ c) (hok : a + 18 + laN bs a ≤ n) (R : Ending → World → Prop)
    (END : Hid (∀ (K T DD : Int) (M : Nat) (XS : List Int) (HS : ByteArray), Hid (K = laK bs a) → Hid (T = laT bs a) → Hid (DD = laD bs a) → Hid (M = laN bs a) → Hid (XS = laX bs a) → Hid (strOfNums (hexL ((bs.drop (a + 1)).take 8)) = HS) → ∀ (V : World) (B ge ce : Nat) (t2 t3 t5 t6 t8 t10 t11 t12 t13 t14 t15 t16 t17 t18 t19 t20 t21 t22 t23 t24 t25 t26 t27 t28 t29 t30 t31 t32 t33 t34 t35 t36 t37 t38 t39 t40 t41 t42 t43 t44 t45 t46 t47 t48 t49 t50 t51 t52 t53 t54 t55 t56 t57 t58 t59 t60 t61 t62 t63 t64 t65 t66 t67 t68 t69 t70 t71 t72 t73 t74 t75 t76 t77 t78 t79 t80 : Value), Cells V w.heap.size #[.int .i64 0, .string { data := #[] }, .int .i64 0, .int .i64 0, .slice none 0 0] → Cells V B #[.int .i64 K, .string HS, .int .i64 T, .int .i64 DD, .slice (some ⟨ge, 0, none⟩) M ce] → RowAt V ge ce M XS → ge ≠ B → ge ≠ w.heap.size → ge < V.heap.size → w.heap.size < B → w.heap.size ≤ ge → Below w.heap.size w V → Code.wp Tryd.prog (snd (snd (snd (snd (snd (snd (bodyOf Tryd.f4))))))) (bodyPost Tryd.prog Tryd.f4 R) { tmps := #[.slice (some ⟨g, o, none⟩) n c, .int .i64 (a : Int), t2, t3, .pointer (some ⟨w.heap.size, 0, none⟩), t5, t6, .int .i64 (M : Int), t8, .pointer (some ⟨B, 0, none⟩), t10, t11, t12, t13, t14, t15, t16, t17, t18, t19, t20, t21, t22, t23, t24, t25, t26, t27, t28, t29, t30, t31, t32, t33, t34, t35, t36, t37, t38, t39, t40, t41, t42, t43, t44, t45, t46, t47, t48, t49, t50, t51, t52, t53, t54, t55, t56, t57, t58, t59, t60, t61, t62, t63, t64, t65, t66, t67, t68, t69, t70, t71, t72, t73, t74, t75, t76, t77, t78, t79, t80, undef, undef, undef, undef, undef, undef, undef, undef, undef, undef, undef, undef, undef, undef, undef, undef, undef, undef, undef, undef, undef], defers := [] } V)) :
    Calls Tryd.prog 4 #[.slice (some ⟨g, o, none⟩) n c, .int .i64 (a : Int)] w R := by
  obtain ⟨i0, hi, hz0, hz1, hz2⟩ := info_parts infoByte
  obtain ⟨W, hW⟩ : ∃ W, W = w.alloc (.cells #[.int .i64 0, .string { data := #[] }, .int .i64 0, .int .i64 0, .slice none 0 0] 24) := ⟨_, rfl⟩
  have kA : Below w.heap.size w W := made_eq hW
  have C0 : Cells W w.heap.size #[.int .i64 0, .string { data := #[] }, .int .i64 0, .int .i64 0, .slice none 0 0] := by rw [hW]; exact Cells.made _ _ _
  replace hW : Hid (w.alloc (.cells #[.int .i64 0, .string { data := #[] }, .int .i64 0, .int .i64 0, .slice none 0 0] 24) = W) := hW.symm
  have hN := laN_lt hb a
  have hN2 := laN_two hb (a := a) (by omega)
  have x14 := byteL hb (a + 14)
  have x15 := byteL hb (a + 15)
  have hh := in_below h kA
  obtain ⟨b', o', e, hcell⟩ := id hh (by omega)
  cases e
  obtain ⟨A14, hA14⟩ : ∃ A, A = a + 14 := ⟨_, rfl⟩
  obtain ⟨A15, hA15⟩ : ∃ A, A = a + 15 := ⟨_, rfl⟩
  have c14 := hcell A14 (by omega)
  have c15 := hcell A15 (by omega)
  rw [← hA14] at x14 hN2
  rw [← hA15] at x15 hN2
  have h1 : ¬ (a : Int) < 0 := by omega
  have h2 : ¬ (n : Int) - 18 < (a : Int) := by omega
  have hw18 : IntKind.i64.wrap ((n : Int) - 18) = (n : Int) - 18 := by rw [IntKind.wrap_i64]; omega
  have w14 : IntKind.i64.wrap ((a : Int) + 14) = (A14 : Int) := by rw [IntKind.wrap_i64]; omega
  have w15 : IntKind.i64.wrap ((a : Int) + 15) = (A15 : Int) := by rw [IntKind.wrap_i64]; omega
  have i14 : (A14 : Int) < (n : Int) := by omega
  have i15 : (A15 : Int) < (n : Int) := by omega
  have p14 : (0 : Int) ≤ (A14 : Int) := by omega
  have p15 : (0 : Int) ≤ (A15 : Int) := by omega
  have hna : IntKind.i64.wrap ((n : Int) - (a : Int)) = (n : Int) - (a : Int) := by rw [IntKind.wrap_i64]; omega
  have hna2 : IntKind.i64.wrap ((n : Int) - (a : Int) - 18) = (n : Int) - (a : Int) - 18 := by rw [IntKind.wrap_i64]; omega
  generalize bs.getD A14 0 = X14 at c14 x14 hN2
  generalize bs.getD A15 0 = X15 at c15 x15 hN2
  have v14 : IntKind.i64.wrap X14 = X14 := by rw [IntKind.wrap_i64]; omega
  have v15 : IntKind.i64.wrap X15 = X15 := by rw [IntKind.wrap_i64]; omega
  have v14m : IntKind.i64.wrap (256 * X14) = 256 * X14 := by rw [IntKind.wrap_i64]; omega
  have v16 : IntKind.i64.wrap (256 * X14 + X15) = (laN bs a : Int) := by rw [IntKind.wrap_i64]; omega
  have HK3 : ∀ w1, Below W.heap.size W w1 → w1.cell? ⟨g, o + A14, none⟩ = some (.int .u8 X14) ∧ w1.cell? ⟨g, o + A15, none⟩ = some (.int .u8 X15) := fun w1 hX => ⟨(hX.cell (World.block_lt_of_cell? W _ c14)).trans c14, (hX.cell (World.block_lt_of_cell? W _ c15)).trans c15⟩
  have bdr3 : Below W.heap.size W W.drew := (Below.refl _ _).drew
  have h4 : ¬ (n : Int) - (a : Int) - 18 < (laN bs a : Int) := by omega
  have sub : ∀ l k, ∀ x ∈ (bs.drop l).take k, 0 ≤ x ∧ x < 256 := fun l k x hx => hb x (List.mem_of_mem_drop (List.mem_of_mem_take hx))
  have len : ∀ l k, l + k ≤ n → ((bs.drop l).take k).length = k := fun l k hk => by rw [List.length_take, List.length_drop]; omega
  have cut : ∀ X, Below W.heap.size W X → ∀ l k, l + k ≤ n → BytesIn X (some ⟨g, o + l, none⟩) k ((bs.drop l).take k) := fun X hX l k hk => in_cut (in_below hh hX) l k hk
  have hD := laD_lt hb a
  have hK : 0 ≤ laK bs a ∧ laK bs a < 256 := byteL hb a
  have hT : 0 ≤ laT bs a ∧ laT bs a < 256 := byteL hb (a + 9)
  have hXl := laX_len (bs := bs) (a := a) (by omega)
  have hDw := laD_word (bs := bs) (a := a) (by omega)
  obtain ⟨A1, hA1⟩ : ∃ A, A = a + 1 := ⟨_, rfl⟩
  obtain ⟨A9, hA9⟩ : ∃ A, A = a + 9 := ⟨_, rfl⟩
  obtain ⟨A10, hA10⟩ : ∃ A, A = a + 10 := ⟨_, rfl⟩
  obtain ⟨A16, hA16⟩ : ∃ A, A = a + 16 := ⟨_, rfl⟩
  obtain ⟨AE, hAE⟩ : ∃ A, A = a + 16 + laN bs a := ⟨_, rfl⟩
  have w1' : IntKind.i64.wrap ((a : Int) + 1) = (A1 : Int) := by rw [IntKind.wrap_i64]; omega
  have w9' : IntKind.i64.wrap ((a : Int) + 9) = (A9 : Int) := by rw [IntKind.wrap_i64]; omega
  have w10' : IntKind.i64.wrap ((a : Int) + 10) = (A10 : Int) := by rw [IntKind.wrap_i64]; omega
  have w16' : IntKind.i64.wrap ((a : Int) + 16) = (A16 : Int) := by rw [IntKind.wrap_i64]; omega
  have wE' : IntKind.i64.wrap ((A16 : Int) + (laN bs a : Int)) = (AE : Int) := by rw [IntKind.wrap_i64]; omega
  have s10 := cut_mid g o n c A10 A14 (by omega) (by omega) (by omega)
  have s1 := cut_mid g o n c A1 A9 (by omega) (by omega) (by omega)
  have s16 := cut_mid g o n c A16 AE (by omega) (by omega) (by omega)
  rw [show A14 - A10 = 4 by omega] at s10
  rw [show A9 - A1 = 8 by omega] at s1
  rw [show AE - A16 = laN bs a by omega] at s16
  have WD := fun X (hX : Below W.heap.size W X) => specWords_any (some ⟨g, o + A10, none⟩) 4 (c - A10) true _ X (by omega) (len A10 4 (by omega)) (cut X hX A10 4 (by omega)) (sub _ _)
  have CH : ∀ X, Below W.heap.size W X → Calls Tryd.prog 13 #[.slice (some ⟨g, o + A1, none⟩) 8 (c - A1)] X fun e w' => e = .returned (.string (strOfNums (hexL ((bs.drop A1).take 8)))) ∧ Below X.heap.size X w' := fun X hX => specHex_any _ 8 _ _ X (by omega) (len _ _ (by omega)) (cut X hX A1 8 (by omega)) (sub _ _)
  have hXin := fun X (hX : Below W.heap.size W X) => cut X hX A16 (laN bs a) (by omega)
  rw [hA16] at hXin
  have cK : ∀ X, Below W.heap.size W X → X.cell? ⟨g, o + a, none⟩ = some (.int .u8 (laK bs a)) := fun X hX => (hX.cell (p := ⟨g, o + a, none⟩) (World.block_lt_of_cell? W ⟨g, o + a, none⟩ (hcell a (by omega)))).trans (hcell a (by omega))
  have cT : ∀ X, Below W.heap.size W X → X.cell? ⟨g, o + A9, none⟩ = some (.int .u8 (laT bs a)) := fun X hX => by
    have hq := hcell A9 (by omega)
    have hq2 : laT bs a = bs.getD A9 0 := by rw [hA9]; rfl
    rw [hq2]
    exact (hX.cell (p := ⟨g, o + A9, none⟩) (World.block_lt_of_cell? W ⟨g, o + A9, none⟩ hq)).trans hq
  have wK : IntKind.i64.wrap (laK bs a) = laK bs a := by rw [IntKind.wrap_i64]; omega
  have wT : IntKind.i64.wrap (laT bs a) = laT bs a := by rw [IntKind.wrap_i64]; omega
  have ia : (a : Int) < (n : Int) := by omega
  have i9 : (A9 : Int) < (n : Int) := by omega
  have p9 : (0 : Int) ≤ (A9 : Int) := by omega
  have hA10' : (bs.drop (a + 10)).take 4 = (bs.drop A10).take 4 := by rw [hA10]
  rw [hA10'] at hDw
  have hA1' : strOfNums (hexL ((bs.drop (a + 1)).take 8)) = strOfNums (hexL ((bs.drop A1).take 8)) := by rw [hA1]
  replace hA1' : Hid _ := hA1'
  replace hDw : Hid _ := hDw
  replace hA16 : Hid _ := hA16
  generalize strOfNums (hexL ((bs.drop A1).take 8)) = HS at CH hA1'
  obtain ⟨M, hM⟩ : ∃ M, M = laN bs a := ⟨_, rfl⟩
  obtain ⟨K, hKe⟩ : ∃ K, K = laK bs a := ⟨_, rfl⟩
  obtain ⟨T, hTe⟩ : ∃ T, T = laT bs a := ⟨_, rfl⟩
  obtain ⟨DD, hDe⟩ : ∃ D, D = laD bs a := ⟨_, rfl⟩
  obtain ⟨XS, hXe⟩ : ∃ XS, XS = laX bs a := ⟨_, rfl⟩
  have hXin2 : ∀ X, Below W.heap.size W X → BytesIn X (some ⟨g, o + A16, none⟩) M XS := fun X hX => by rw [hXe, hM, hA16.out]; exact hXin X hX
  have hDw2 : wordsL true ((bs.drop A10).take 4) 1 = [DD] := by rw [hDe, hDw.out]; rfl
  rw [← hXe, ← hM] at hXl
  rw [← hM] at h4 v16 wE' s16 hN
  rw [← hKe] at hK wK
  simp only [← hKe] at cK
  rw [← hTe] at hT wT
  simp only [← hTe] at cT
  replace WD : ∀ X, Below W.heap.size W X → Calls Tryd.prog 12 #[.slice (some ⟨g, o + A10, none⟩) 4 (c - A10), .bool true] X fun e w' => ∃ p' c', e = .returned (.slice p' 1 c') ∧ OwnI 3 w' X.heap.size w'.heap.size (.slice p' 1 c') 1 [DD] ∧ Below X.heap.size X w' := fun X hX => by rw [← hDw2]; exact WD X hX
  replace hM : Hid _ := hM
  replace hKe : Hid _ := hKe
  replace hTe : Hid _ := hTe
  replace hDe : Hid _ := hDe
  replace hXe : Hid _ := hXe
  clear hXin hDw2 hDw hD hok
  clear hA1 hA9 hA10 hA10' hA14 hA15 hAE hN2 hcell sub len cut hh h hb hx c14 c15
  go_enter Tryd.func4, Tryd.ntmps4
  go_wp2_with (rw [hW.out])
  go_region_held3 (fun w1 => w1.cell? ⟨g, o + A14, none⟩ = some (.int .u8 X14) ∧ w1.cell? ⟨g, o + A15, none⟩ = some (.int .u8 X15)) (exact HK3 _ (by repeat (with_reducible (first | exact Below.refl _ _ | refine below_drewL ?_)))) (first | fail)
  go_wp2_with (fail)
  refine (WD _ bdr3).mono ?_
  rintro z w6 ⟨pw, cw, rfl, rw6, b6⟩
  have k6 := below_on (below_on kA bdr3) b6
  have kW6 : Below W.heap.size W w6 := below_on bdr3 b6
  obtain ⟨gw, ow, rfl, hcw⟩ := rw6.ints (by omega)
  have cW := hcw 0 (by omega)
  replace cW : w6.cell? ⟨gw, ow, none⟩ = some (.int .i64 DD) := cW
  replace C0 := C0.on kW6
  have HK7 : ∀ w1, Below w6.heap.size w6 w1 → w1.cell? ⟨g, o + a, none⟩ = some (.int .u8 K) ∧ w1.cell? ⟨g, o + A9, none⟩ = some (.int .u8 T) ∧ w1.cell? ⟨gw, ow, none⟩ = some (.int .i64 DD) := fun w1 hX => ⟨cK _ (below_on kW6 hX), cT _ (below_on kW6 hX), (hX.cell (World.block_lt_of_cell? w6 _ cW)).trans cW⟩
  clear HK3 bdr3 kA WD s10 hcw rw6 cW cK cT
  go_wp2_with (fail)
  rename_i K7 a7
  go_region_held3 (fun w1 => w1.cell? ⟨g, o + a, none⟩ = some (.int .u8 K) ∧ w1.cell? ⟨g, o + A9, none⟩ = some (.int .u8 T) ∧ w1.cell? ⟨gw, ow, none⟩ = some (.int .i64 DD)) (exact HK7 _ (by repeat (with_reducible (first | exact Below.refl _ _ | exact ba | refine below_drewL ?_ | refine below_allocL ?_ _ | refine below_setA ?_ (by first | exact Nat.le_refl _ | exact hw6h | exact Nat.le_succ_of_le hw6h | exact Nat.le_succ _) _ | refine below_on ?_ bh)))) (first | (refine step_fresh_all (w0 := w6) (lo := w6.heap.size) hi hz0 hz1 hz2 (.tmp 70) (.tmp 78) 22 Tryd.underlying22 (by rfl) (by rfl) (by rfl) (by rfl) (by repeat (with_reducible (first | exact emp_made _ _ rfl | exact emp_made _ _ (size_allocI _ _) | refine emp_alloc ?_ _ | refine emp_drew ?_ | refine emp_below ?_ bh))) (hXin2 _ (below_on kW6 (by repeat (with_reducible (first | exact Below.refl _ _ | exact ba | refine below_drewL ?_ | refine below_allocL ?_ _ | refine below_setA ?_ (by first | exact Nat.le_refl _ | exact hw6h | exact Nat.le_succ_of_le hw6h | exact Nat.le_succ _) _ | refine below_on ?_ bh))))) hXl (by omega) (by repeat (with_reducible (first | exact Below.refl _ _ | exact ba | refine below_drewL ?_ | refine below_allocL ?_ _ | refine below_setA ?_ (by first | exact Nat.le_refl _ | exact hw6h | exact Nat.le_succ_of_le hw6h | exact Nat.le_succ _) _ | refine below_on ?_ bh))) (by first | exact Nat.le_refl _ | exact hw6h | simp | omega) ?_; intro ge ce wa ra hge lta zza ga ba; (first | (have D0 : Cells wa (wh.heap.size + 1) #[.int .i64 0, .string { data := #[] }, .int .i64 0, .int .i64 0, .slice none 0 0] := (by have q := (Cells.made (wh.alloc _) #[.int .i64 0, .string { data := #[] }, .int .i64 0, .int .i64 0, .slice none 0 0] 24).grown ga (fun e => by simp at e); rw [size_allocI] at q; exact q); have q0 : (wa).cell? ⟨(wh.heap.size + 1), 0, none⟩ = some (.int .i64 0) := (D0.2 0).1; have u0 := (D0.2 0).2; have D1 := D0.set 0 (by simp) (.int .i64 K); have q1 : (wa.setCell ⟨(wh.heap.size + 1), 0, none⟩ (.int .i64 K)).cell? ⟨(wh.heap.size + 1), 1, none⟩ = some (.string { data := #[] }) := (D1.2 1).1; have u1 := (D1.2 1).2; have D2 := D1.set 1 (by simp) (.string HS); have q2 : ((wa.setCell ⟨(wh.heap.size + 1), 0, none⟩ (.int .i64 K)).setCell ⟨(wh.heap.size + 1), 1, none⟩ (.string HS)).cell? ⟨(wh.heap.size + 1), 2, none⟩ = some (.int .i64 0) := (D2.2 2).1; have u2 := (D2.2 2).2; have D3 := D2.set 2 (by simp) (.int .i64 T); have q3 : (((wa.setCell ⟨(wh.heap.size + 1), 0, none⟩ (.int .i64 K)).setCell ⟨(wh.heap.size + 1), 1, none⟩ (.string HS)).setCell ⟨(wh.heap.size + 1), 2, none⟩ (.int .i64 T)).cell? ⟨(wh.heap.size + 1), 3, none⟩ = some (.int .i64 0) := (D3.2 3).1; have u3 := (D3.2 3).2; have D4 := D3.set 3 (by simp) (.int .i64 DD); have q4 : ((((wa.setCell ⟨(wh.heap.size + 1), 0, none⟩ (.int .i64 K)).setCell ⟨(wh.heap.size + 1), 1, none⟩ (.string HS)).setCell ⟨(wh.heap.size + 1), 2, none⟩ (.int .i64 T)).setCell ⟨(wh.heap.size + 1), 3, none⟩ (.int .i64 DD)).cell? ⟨(wh.heap.size + 1), 4, none⟩ = some (.slice none 0 0) := (D4.2 4).1; have u4 := (D4.2 4).2; have D5 := D4.set 4 (by simp) (.slice (some ⟨ge, 0, none⟩) M ce)) | (have D0 : Cells wa wh.heap.size #[.int .i64 0, .string { data := #[] }, .int .i64 0, .int .i64 0, .slice none 0 0] := (((Cells.made wh #[.int .i64 0, .string { data := #[] }, .int .i64 0, .int .i64 0, .slice none 0 0] 24).on (made_below _ _ (Below.refl _ _))).grown ga (fun e => by simp at e)); have q0 : (wa).cell? ⟨wh.heap.size, 0, none⟩ = some (.int .i64 0) := (D0.2 0).1; have u0 := (D0.2 0).2; have D1 := D0.set 0 (by simp) (.int .i64 K); have q1 : (wa.setCell ⟨wh.heap.size, 0, none⟩ (.int .i64 K)).cell? ⟨wh.heap.size, 1, none⟩ = some (.string { data := #[] }) := (D1.2 1).1; have u1 := (D1.2 1).2; have D2 := D1.set 1 (by simp) (.string HS); have q2 : ((wa.setCell ⟨wh.heap.size, 0, none⟩ (.int .i64 K)).setCell ⟨wh.heap.size, 1, none⟩ (.string HS)).cell? ⟨wh.heap.size, 2, none⟩ = some (.int .i64 0) := (D2.2 2).1; have u2 := (D2.2 2).2; have D3 := D2.set 2 (by simp) (.int .i64 T); have q3 : (((wa.setCell ⟨wh.heap.size, 0, none⟩ (.int .i64 K)).setCell ⟨wh.heap.size, 1, none⟩ (.string HS)).setCell ⟨wh.heap.size, 2, none⟩ (.int .i64 T)).cell? ⟨wh.heap.size, 3, none⟩ = some (.int .i64 0) := (D3.2 3).1; have u3 := (D3.2 3).2; have D4 := D3.set 3 (by simp) (.int .i64 DD); have q4 : ((((wa.setCell ⟨wh.heap.size, 0, none⟩ (.int .i64 K)).setCell ⟨wh.heap.size, 1, none⟩ (.string HS)).setCell ⟨wh.heap.size, 2, none⟩ (.int .i64 T)).setCell ⟨wh.heap.size, 3, none⟩ (.int .i64 DD)).cell? ⟨wh.heap.size, 4, none⟩ = some (.slice none 0 0) := (D4.2 4).1; have u4 := (D4.2 4).2; have D5 := D4.set 4 (by simp) (.slice (some ⟨ge, 0, none⟩) M ce)) | (have D0 : Cells wa w6.heap.size #[.int .i64 0, .string { data := #[] }, .int .i64 0, .int .i64 0, .slice none 0 0] := ((((Cells.made w6.drew #[.int .i64 0, .string { data := #[] }, .int .i64 0, .int .i64 0, .slice none 0 0] 24).on bh).on (made_below _ _ (Below.refl _ _))).grown ga (fun e => by have q1 := bh.size; simp at e q1; omega)); have q0 : (wa).cell? ⟨w6.heap.size, 0, none⟩ = some (.int .i64 0) := (D0.2 0).1; have u0 := (D0.2 0).2; have D1 := D0.set 0 (by simp) (.int .i64 K); have q1 : (wa.setCell ⟨w6.heap.size, 0, none⟩ (.int .i64 K)).cell? ⟨w6.heap.size, 1, none⟩ = some (.string { data := #[] }) := (D1.2 1).1; have u1 := (D1.2 1).2; have D2 := D1.set 1 (by simp) (.string HS); have q2 : ((wa.setCell ⟨w6.heap.size, 0, none⟩ (.int .i64 K)).setCell ⟨w6.heap.size, 1, none⟩ (.string HS)).cell? ⟨w6.heap.size, 2, none⟩ = some (.int .i64 0) := (D2.2 2).1; have u2 := (D2.2 2).2; have D3 := D2.set 2 (by simp) (.int .i64 T); have q3 : (((wa.setCell ⟨w6.heap.size, 0, none⟩ (.int .i64 K)).setCell ⟨w6.heap.size, 1, none⟩ (.string HS)).setCell ⟨w6.heap.size, 2, none⟩ (.int .i64 T)).cell? ⟨w6.heap.size, 3, none⟩ = some (.int .i64 0) := (D3.2 3).1; have u3 := (D3.2 3).2; have D4 := D3.set 3 (by simp) (.int .i64 DD); have q4 : ((((wa.setCell ⟨w6.heap.size, 0, none⟩ (.int .i64 K)).setCell ⟨w6.heap.size, 1, none⟩ (.string HS)).setCell ⟨w6.heap.size, 2, none⟩ (.int .i64 T)).setCell ⟨w6.heap.size, 3, none⟩ (.int .i64 DD)).cell? ⟨w6.heap.size, 4, none⟩ = some (.slice none 0 0) := (D4.2 4).1; have u4 := (D4.2 4).2; have D5 := D4.set 4 (by simp) (.slice (some ⟨ge, 0, none⟩) M ce)) | (have D0 : Cells wa wh.heap.size #[.int .i64 0, .string { data := #[] }, .int .i64 0, .int .i64 0, .slice none 0 0] := ((Cells.made wh #[.int .i64 0, .string { data := #[] }, .int .i64 0, .int .i64 0, .slice none 0 0] 24).grown ga (fun e => by have q1 := bh.size; simp at e q1; omega)); have q0 : (wa).cell? ⟨wh.heap.size, 0, none⟩ = some (.int .i64 0) := (D0.2 0).1; have u0 := (D0.2 0).2; have D1 := D0.set 0 (by simp) (.int .i64 K); have q1 : (wa.setCell ⟨wh.heap.size, 0, none⟩ (.int .i64 K)).cell? ⟨wh.heap.size, 1, none⟩ = some (.string { data := #[] }) := (D1.2 1).1; have u1 := (D1.2 1).2; have D2 := D1.set 1 (by simp) (.string HS); have q2 : ((wa.setCell ⟨wh.heap.size, 0, none⟩ (.int .i64 K)).setCell ⟨wh.heap.size, 1, none⟩ (.string HS)).cell? ⟨wh.heap.size, 2, none⟩ = some (.int .i64 0) := (D2.2 2).1; have u2 := (D2.2 2).2; have D3 := D2.set 2 (by simp) (.int .i64 T); have q3 : (((wa.setCell ⟨wh.heap.size, 0, none⟩ (.int .i64 K)).setCell ⟨wh.heap.size, 1, none⟩ (.string HS)).setCell ⟨wh.heap.size, 2, none⟩ (.int .i64 T)).cell? ⟨wh.heap.size, 3, none⟩ = some (.int .i64 0) := (D3.2 3).1; have u3 := (D3.2 3).2; have D4 := D3.set 3 (by simp) (.int .i64 DD); have q4 : ((((wa.setCell ⟨wh.heap.size, 0, none⟩ (.int .i64 K)).setCell ⟨wh.heap.size, 1, none⟩ (.string HS)).setCell ⟨wh.heap.size, 2, none⟩ (.int .i64 T)).setCell ⟨wh.heap.size, 3, none⟩ (.int .i64 DD)).cell? ⟨wh.heap.size, 4, none⟩ = some (.slice none 0 0) := (D4.2 4).1; have u4 := (D4.2 4).2; have D5 := D4.set 4 (by simp) (.slice (some ⟨ge, 0, none⟩) M ce)) | (have D0 : Cells wa (w6.heap.size + 1) #[.int .i64 0, .string { data := #[] }, .int .i64 0, .int .i64 0, .slice none 0 0] := (by have q := ((Cells.made (w6.drew.alloc _) #[.int .i64 0, .string { data := #[] }, .int .i64 0, .int .i64 0, .slice none 0 0] 24).on bh).grown ga (fun e => by simp at e); rw [size_allocI] at q; exact q); have q0 : (wa).cell? ⟨(w6.heap.size + 1), 0, none⟩ = some (.int .i64 0) := (D0.2 0).1; have u0 := (D0.2 0).2; have D1 := D0.set 0 (by simp) (.int .i64 K); have q1 : (wa.setCell ⟨(w6.heap.size + 1), 0, none⟩ (.int .i64 K)).cell? ⟨(w6.heap.size + 1), 1, none⟩ = some (.string { data := #[] }) := (D1.2 1).1; have u1 := (D1.2 1).2; have D2 := D1.set 1 (by simp) (.string HS); have q2 : ((wa.setCell ⟨(w6.heap.size + 1), 0, none⟩ (.int .i64 K)).setCell ⟨(w6.heap.size + 1), 1, none⟩ (.string HS)).cell? ⟨(w6.heap.size + 1), 2, none⟩ = some (.int .i64 0) := (D2.2 2).1; have u2 := (D2.2 2).2; have D3 := D2.set 2 (by simp) (.int .i64 T); have q3 : (((wa.setCell ⟨(w6.heap.size + 1), 0, none⟩ (.int .i64 K)).setCell ⟨(w6.heap.size + 1), 1, none⟩ (.string HS)).setCell ⟨(w6.heap.size + 1), 2, none⟩ (.int .i64 T)).cell? ⟨(w6.heap.size + 1), 3, none⟩ = some (.int .i64 0) := (D3.2 3).1; have u3 := (D3.2 3).2; have D4 := D3.set 3 (by simp) (.int .i64 DD); have q4 : ((((wa.setCell ⟨(w6.heap.size + 1), 0, none⟩ (.int .i64 K)).setCell ⟨(w6.heap.size + 1), 1, none⟩ (.string HS)).setCell ⟨(w6.heap.size + 1), 2, none⟩ (.int .i64 T)).setCell ⟨(w6.heap.size + 1), 3, none⟩ (.int .i64 DD)).cell? ⟨(w6.heap.size + 1), 4, none⟩ = some (.slice none 0 0) := (D4.2 4).1; have u4 := (D4.2 4).2; have D5 := D4.set 4 (by simp) (.slice (some ⟨ge, 0, none⟩) M ce)) | (have D0 : Cells wa w6.heap.size #[.int .i64 0, .string { data := #[] }, .int .i64 0, .int .i64 0, .slice none 0 0] := ((((Cells.made w6.drew #[.int .i64 0, .string { data := #[] }, .int .i64 0, .int .i64 0, .slice none 0 0] 24).on (made_below _ _ (Below.refl _ _))).on bh).grown ga (fun e => by simp at e)); have q0 : (wa).cell? ⟨w6.heap.size, 0, none⟩ = some (.int .i64 0) := (D0.2 0).1; have u0 := (D0.2 0).2; have D1 := D0.set 0 (by simp) (.int .i64 K); have q1 : (wa.setCell ⟨w6.heap.size, 0, none⟩ (.int .i64 K)).cell? ⟨w6.heap.size, 1, none⟩ = some (.string { data := #[] }) := (D1.2 1).1; have u1 := (D1.2 1).2; have D2 := D1.set 1 (by simp) (.string HS); have q2 : ((wa.setCell ⟨w6.heap.size, 0, none⟩ (.int .i64 K)).setCell ⟨w6.heap.size, 1, none⟩ (.string HS)).cell? ⟨w6.heap.size, 2, none⟩ = some (.int .i64 0) := (D2.2 2).1; have u2 := (D2.2 2).2; have D3 := D2.set 2 (by simp) (.int .i64 T); have q3 : (((wa.setCell ⟨w6.heap.size, 0, none⟩ (.int .i64 K)).setCell ⟨w6.heap.size, 1, none⟩ (.string HS)).setCell ⟨w6.heap.size, 2, none⟩ (.int .i64 T)).cell? ⟨w6.heap.size, 3, none⟩ = some (.int .i64 0) := (D3.2 3).1; have u3 := (D3.2 3).2; have D4 := D3.set 3 (by simp) (.int .i64 DD); have q4 : ((((wa.setCell ⟨w6.heap.size, 0, none⟩ (.int .i64 K)).setCell ⟨w6.heap.size, 1, none⟩ (.string HS)).setCell ⟨w6.heap.size, 2, none⟩ (.int .i64 T)).setCell ⟨w6.heap.size, 3, none⟩ (.int .i64 DD)).cell? ⟨w6.heap.size, 4, none⟩ = some (.slice none 0 0) := (D4.2 4).1; have u4 := (D4.2 4).2; have D5 := D4.set 4 (by simp) (.slice (some ⟨ge, 0, none⟩) M ce)) | skip)) | (go_at_call 13; refine (CH _ (below_on kW6 (by repeat (with_reducible (first | exact Below.refl _ _ | exact ba | refine below_drewL ?_ | refine below_allocL ?_ _ | refine below_setA ?_ (by first | exact Nat.le_refl _ | exact hw6h | exact Nat.le_succ_of_le hw6h | exact Nat.le_succ _) _ | refine below_on ?_ bh))))).mono ?_; rintro z wh ⟨rfl, bh⟩; have hw6h : w6.heap.size ≤ wh.heap.size := Nat.le_trans (by first | exact Nat.le_refl _ | (simp; done) | (simp; omega)) bh.size))
  all_goals
    show K7 _ _
    first
    | (obtain ⟨V, hV⟩ : ∃ V, V = wa.alloc (.cells #[.int .i64 K, .string HS, .int .i64 T, .int .i64 DD, .slice (some ⟨ge, 0, none⟩) M ce] 24) := ⟨_, rfl⟩
       rw [← hV]
       have bV : Below wa.heap.size wa V := by rw [hV]; exact made_below _ _ (Below.refl _ _)
       have CV : Cells V wa.heap.size #[.int .i64 K, .string HS, .int .i64 T, .int .i64 DD, .slice (some ⟨ge, 0, none⟩) M ce] := by rw [hV]; exact Cells.made _ _ _
       have kV : Below w6.heap.size w6 V := below_on ba bV
       have rV : RowAt V ge ce M XS := rowAt_below ra bV
       have hne : ge ≠ wa.heap.size := Nat.ne_of_lt lta
       have hgV : ge < V.heap.size := Nat.lt_of_lt_of_le lta bV.size
       have hBw : w6.heap.size ≤ wa.heap.size := ba.size
       have hgl : w6.heap.size ≤ ge := (by have q1 := bh.size; simp at hge q1; omega)
       have q0w := C0.1
       exact a7 _ _ (END.out K T DD M XS HS hKe hTe hDe hM hXe hA1' V (wa.heap.size) ge ce _ _ _ _ _ _ _ _ _ _ _ _ _ _ _ _ _ _ _ _ _ _ _ _ _ _ _ _ _ _ _ _ _ _ _ _ _ _ _ _ _ _ _ _ _ _ _ _ _ _ _ _ _ _ _ _ _ _ _ _ _ _ _ _ _ _ _ _ _ _ _ _ _ _ _ _ (C0.on kV) CV rV hne (by omega) hgV (by omega) (by omega) (below_on k6 kV)))
    | (obtain ⟨V, hV⟩ : ∃ V, V = ((((wa.setCell ⟨(wh.heap.size + 1), 0, none⟩ (.int .i64 K)).setCell ⟨(wh.heap.size + 1), 1, none⟩ (.string HS)).setCell ⟨(wh.heap.size + 1), 2, none⟩ (.int .i64 T)).setCell ⟨(wh.heap.size + 1), 3, none⟩ (.int .i64 DD)).setCell ⟨(wh.heap.size + 1), 4, none⟩ (.slice (some ⟨ge, 0, none⟩) M ce) := ⟨_, rfl⟩
       rw [← hV]
       have CV : Cells V (wh.heap.size + 1) #[.int .i64 K, .string HS, .int .i64 T, .int .i64 DD, .slice (some ⟨ge, 0, none⟩) M ce] := by rw [hV]; exact D5
       have hBw : w6.heap.size ≤ (wh.heap.size + 1) := by have q2 := hw6h; omega
       have kV : Below w6.heap.size w6 V := by rw [hV]; exact (below_setA (below_setA (below_setA (below_setA (below_setA ba hBw _) hBw _) hBw _) hBw _) hBw _)
       have hne : ge ≠ (wh.heap.size + 1) := (by have q1 := bh.size; simp at hge q1; omega)
       have rV : RowAt V ge ce M XS := by rw [hV]; exact (rowAt_grown (rowAt_grown (rowAt_grown (rowAt_grown (rowAt_grown ra (set_grown _ _ _ _) hne) (set_grown _ _ _ _) hne) (set_grown _ _ _ _) hne) (set_grown _ _ _ _) hne) (set_grown _ _ _ _) hne)
       have hgV : ge < V.heap.size := by rw [hV]; simpa using lta
       have hgl : w6.heap.size ≤ ge := (by have q1 := bh.size; simp at hge q1; omega)
       have q0w := C0.1
       exact a7 _ _ (END.out K T DD M XS HS hKe hTe hDe hM hXe hA1' V ((wh.heap.size + 1)) ge ce _ _ _ _ _ _ _ _ _ _ _ _ _ _ _ _ _ _ _ _ _ _ _ _ _ _ _ _ _ _ _ _ _ _ _ _ _ _ _ _ _ _ _ _ _ _ _ _ _ _ _ _ _ _ _ _ _ _ _ _ _ _ _ _ _ _ _ _ _ _ _ _ _ _ _ _ (C0.on kV) CV rV hne (by omega) hgV (by omega) (by omega) (below_on k6 kV)))
    | (obtain ⟨V, hV⟩ : ∃ V, V = ((((wa.setCell ⟨wh.heap.size, 0, none⟩ (.int .i64 K)).setCell ⟨wh.heap.size, 1, none⟩ (.string HS)).setCell ⟨wh.heap.size, 2, none⟩ (.int .i64 T)).setCell ⟨wh.heap.size, 3, none⟩ (.int .i64 DD)).setCell ⟨wh.heap.size, 4, none⟩ (.slice (some ⟨ge, 0, none⟩) M ce) := ⟨_, rfl⟩
       rw [← hV]
       have CV : Cells V wh.heap.size #[.int .i64 K, .string HS, .int .i64 T, .int .i64 DD, .slice (some ⟨ge, 0, none⟩) M ce] := by rw [hV]; exact D5
       have hBw : w6.heap.size ≤ wh.heap.size := by have q2 := hw6h; omega
       have kV : Below w6.heap.size w6 V := by rw [hV]; exact (below_setA (below_setA (below_setA (below_setA (below_setA ba hBw _) hBw _) hBw _) hBw _) hBw _)
       have hne : ge ≠ wh.heap.size := (by have q1 := bh.size; simp at hge q1; omega)
       have rV : RowAt V ge ce M XS := by rw [hV]; exact (rowAt_grown (rowAt_grown (rowAt_grown (rowAt_grown (rowAt_grown ra (set_grown _ _ _ _) hne) (set_grown _ _ _ _) hne) (set_grown _ _ _ _) hne) (set_grown _ _ _ _) hne) (set_grown _ _ _ _) hne)
       have hgV : ge < V.heap.size := by rw [hV]; simpa using lta
       have hgl : w6.heap.size ≤ ge := (by have q1 := bh.size; simp at hge q1; omega)
       have q0w := C0.1
       exact a7 _ _ (END.out K T DD M XS HS hKe hTe hDe hM hXe hA1' V (wh.heap.size) ge ce _ _ _ _ _ _ _ _ _ _ _ _ _ _ _ _ _ _ _ _ _ _ _ _ _ _ _ _ _ _ _ _ _ _ _ _ _ _ _ _ _ _ _ _ _ _ _ _ _ _ _ _ _ _ _ _ _ _ _ _ _ _ _ _ _ _ _ _ _ _ _ _ _ _ _ _ (C0.on kV) CV rV hne (by omega) hgV (by omega) (by omega) (below_on k6 kV)))
    | (obtain ⟨V, hV⟩ : ∃ V, V = ((((wa.setCell ⟨w6.heap.size, 0, none⟩ (.int .i64 K)).setCell ⟨w6.heap.size, 1, none⟩ (.string HS)).setCell ⟨w6.heap.size, 2, none⟩ (.int .i64 T)).setCell ⟨w6.heap.size, 3, none⟩ (.int .i64 DD)).setCell ⟨w6.heap.size, 4, none⟩ (.slice (some ⟨ge, 0, none⟩) M ce) := ⟨_, rfl⟩
       rw [← hV]
       have CV : Cells V w6.heap.size #[.int .i64 K, .string HS, .int .i64 T, .int .i64 DD, .slice (some ⟨ge, 0, none⟩) M ce] := by rw [hV]; exact D5
       have hBw : w6.heap.size ≤ w6.heap.size := by have q2 := hw6h; omega
       have kV : Below w6.heap.size w6 V := by rw [hV]; exact (below_setA (below_setA (below_setA (below_setA (below_setA ba hBw _) hBw _) hBw _) hBw _) hBw _)
       have hne : ge ≠ w6.heap.size := (by have q1 := bh.size; simp at hge q1; omega)
       have rV : RowAt V ge ce M XS := by rw [hV]; exact (rowAt_grown (rowAt_grown (rowAt_grown (rowAt_grown (rowAt_grown ra (set_grown _ _ _ _) hne) (set_grown _ _ _ _) hne) (set_grown _ _ _ _) hne) (set_grown _ _ _ _) hne) (set_grown _ _ _ _) hne)
       have hgV : ge < V.heap.size := by rw [hV]; simpa using lta
       have hgl : w6.heap.size ≤ ge := (by have q1 := bh.size; simp at hge q1; omega)
       have q0w := C0.1
       exact a7 _ _ (END.out K T DD M XS HS hKe hTe hDe hM hXe hA1' V (w6.heap.size) ge ce _ _ _ _ _ _ _ _ _ _ _ _ _ _ _ _ _ _ _ _ _ _ _ _ _ _ _ _ _ _ _ _ _ _ _ _ _ _ _ _ _ _ _ _ _ _ _ _ _ _ _ _ _ _ _ _ _ _ _ _ _ _ _ _ _ _ _ _ _ _ _ _ _ _ _ _ (C0.on kV) CV rV hne (by omega) hgV (by omega) (by omega) (below_on k6 kV)))
    | (obtain ⟨V, hV⟩ : ∃ V, V = ((((wa.setCell ⟨(w6.heap.size + 1), 0, none⟩ (.int .i64 K)).setCell ⟨(w6.heap.size + 1), 1, none⟩ (.string HS)).setCell ⟨(w6.heap.size + 1), 2, none⟩ (.int .i64 T)).setCell ⟨(w6.heap.size + 1), 3, none⟩ (.int .i64 DD)).setCell ⟨(w6.heap.size + 1), 4, none⟩ (.slice (some ⟨ge, 0, none⟩) M ce) := ⟨_, rfl⟩
       rw [← hV]
       have CV : Cells V (w6.heap.size + 1) #[.int .i64 K, .string HS, .int .i64 T, .int .i64 DD, .slice (some ⟨ge, 0, none⟩) M ce] := by rw [hV]; exact D5
       have hBw : w6.heap.size ≤ (w6.heap.size + 1) := by have q2 := hw6h; omega
       have kV : Below w6.heap.size w6 V := by rw [hV]; exact (below_setA (below_setA (below_setA (below_setA (below_setA ba hBw _) hBw _) hBw _) hBw _) hBw _)
       have hne : ge ≠ (w6.heap.size + 1) := (by have q1 := bh.size; simp at hge q1; omega)
       have rV : RowAt V ge ce M XS := by rw [hV]; exact (rowAt_grown (rowAt_grown (rowAt_grown (rowAt_grown (rowAt_grown ra (set_grown _ _ _ _) hne) (set_grown _ _ _ _) hne) (set_grown _ _ _ _) hne) (set_grown _ _ _ _) hne) (set_grown _ _ _ _) hne)
       have hgV : ge < V.heap.size := by rw [hV]; simpa using lta
       have hgl : w6.heap.size ≤ ge := (by have q1 := bh.size; simp at hge q1; omega)
       have q0w := C0.1
       exact a7 _ _ (END.out K T DD M XS HS hKe hTe hDe hM hXe hA1' V ((w6.heap.size + 1)) ge ce _ _ _ _ _ _ _ _ _ _ _ _ _ _ _ _ _ _ _ _ _ _ _ _ _ _ _ _ _ _ _ _ _ _ _ _ _ _ _ _ _ _ _ _ _ _ _ _ _ _ _ _ _ _ _ _ _ _ _ _ _ _ _ _ _ _ _ _ _ _ _ _ _ _ _ _ (C0.on kV) CV rV hne (by omega) hgV (by omega) (by omega) (below_on k6 kV)))

end Go.Proofs.YtelfejgpphoifaaDoor
