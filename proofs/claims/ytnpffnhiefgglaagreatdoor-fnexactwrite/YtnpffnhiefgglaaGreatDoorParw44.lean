/-
  A part of the proof.
-/
import Derived.Test.YtnpffnhiefgglaaGreatDoorParw42
import Derived.Test.YtnpffnhiefgglaaGreatDoorParw43
import Derived.Test.YtnpffnhiefgglaaGreatDoorParw41
import Derived.OneCell
namespace Go.Proofs.YtnpffnhiefgglaaGreatDoor
open Go Go.Conc Go.RowKit
set_option maxRecDepth 100000
def bWr : Frame := { (default : Frame) with fn := 8, kind := .normal }
noncomputable def bodyWr : Code := Tryz.f8.body.getD .skip
theorem enter_Wr (x y z u : Value) : Frame.enter Tryz.prog 8 #[x, y, z, u] .normal = bWr.at ⟨#[x, y, z, u] ++ Array.replicate 55 undef, []⟩ [.code bodyWr] := by
  simp [Frame.enter, Frame.at, bWr, bodyWr, Tryz.func8, Tryz.f8]
theorem noFWr (tmps : Array Value) : ∀ t, alsS.f bWr.fn t = true → FnV alsS (tmps.getD t undef) := fun t h => by simp [alsS, bWr] at h
structure Gk (C : Array Value) (e : TypeId) (w : World) : Prop where
  gr : Gr C e w
  keys : KeysIs w
theorem Gk.on {C : Array Value} {e : TypeId} {w w1 : World} (h : Gk C e w) (hl : Below w.heap.size w w1) : Gk C e w1 := ⟨h.gr.on hl, keys_below h.keys hl⟩
theorem KeysIs.ret {w : World} (h : KeysIs w) (θ : Nat → Question → Nat) : KeysIs (World.ret w θ) := h
theorem Cells.ret {w : World} {g : Nat} {A : Array Value} (h : Cells w g A) (θ : Nat → Question → Nat) : Cells (World.ret w θ) g A := h
theorem Cells.like {w w1 : World} {g : Nat} {A : Array Value} (h : Cells w g A) (l : Like w w1) : Cells w1 g A := by
  obtain ⟨τ, d, rfl⟩ := l
  exact h
theorem own_setCell_above {e : Nat} {w : World} {lo hi : Nat} {v : Value} {n : Nat} {xs : List Int} (h : Own e w lo hi v n xs) {a : Addr} (ha : hi ≤ a.block) (u : Value) : Own e (w.setCell a u) lo hi v n xs := ⟨ownsRow_setCell_other h.1 (fun x => by have := h.2 _ x; omega) u, h.2⟩
set_option maxHeartbeats 16000000 in
theorem implWrite_b (p0 p1 p3 : Option Addr) (n0 q0 n1 q1 n3 q3 : Nat) (ss ts xs : List Int) (e : Int) (C : Array Value) (ce : TypeId) (w : World) (hg : Gk C ce w) (h0 : BytesT w p0 n0 q0 ss) (h1 : BytesT w p1 n1 q1 ts) (h3 : BytesT w p3 n3 q3 xs) (he : e ≤ 9223372036854775807) (hn1 : n1 ≤ 1048576) :
    BCalls Tryz.prog 8 #[.slice p0 n0 q0, .slice p1 n1 q1, .int .i64 e, .slice p3 n3 q3] w fun v w2 => ∃ l, v = .tuple #[l, .bool (decide (wroteOk ss ts n0 n1 n3 e))] ∧ LetIs w.heap.size w2 l (wrE ss ts n0 n1 n3 e) (wrF ss ts n0 n1 n3 e) (wrB ss ts n0 n1 n3 e) (wrFl ss ts xs n0 n1 n3 e) (wrBl ss ts xs n0 n1 n3 e) ∧ Below w.heap.size w w2 := fun Q c cs next => by
  have gR : Tryz.prog.globals.size ≤ w.heap.size := cells_le hg.gr.cells
  have hNN := noteN_le n3
  have hNl : (noteL xs).length = noteN n3 := by rw [noteL_length, h3.len]
  have hNb := noteL_byte h3.low
  rw [enter_Wr]
  simp only [bodyWr, Tryz.f8, Option.getD_some]
  walk_nrm
  have k0 : Below w.heap.size w w := .refl _ _
  refine BesB.seq fun KK hKK => ?_
  refine BesB.code tameAS rfl rfl (by kernel_rfl) (noFWr _) fun K hK θ1 x1 b1 => ?_
  go_wp2_with (fail)
  intro w1 e1 t1
  have d1 : Below w.heap.size w w1 := e1.belowR (θ := θ1) t1 ((b1).alloc b1.size _)
  have k1 := below_on k0 d1
  obtain ⟨R, hR⟩ : ∃ R, R = x1.heap.size := ⟨_, rfl⟩
  have CR : Cells w1 R #[.int .i64 0, .slice none 0 0, .slice none 0 0] := by rw [hR]; exact (Cells.made x1 _ _).like e1
  have zR : w.heap.size ≤ R := by rw [hR]; exact b1.size
  rw [← hR]
  clear hR e1 t1 b1
  replace h0 := h0.keep d1
  replace h1 := h1.keep d1
  replace h3 := h3.keep d1
  replace hg := hg.on d1
  refine hKK _ _ ?_
  clear hKK KK
  refine BesB.seq fun KK hKK => ?_
  refine BesB.code tameAS rfl rfl (by kernel_rfl) (noFWr _) fun K hK θ2 x2 b2 => ?_
  go_wp2_with (fail)
  refine (implPublic_any p0 n0 q0 ss x2 h0.len ((h0.ret θ2).keep b2).into h0.low).mono ?_
  rintro z xa ⟨pf, cf, rfl, rf, ba⟩
  go_wp2_with (fail)
  intro w2 e2 t2
  have d2 : Below w1.heap.size w1 w2 := e2.belowR (θ := θ2) t2 ((below_on b2 ba).alloc (Nat.le_trans b2.size ba.size) _)
  have k2 := below_on k1 d2
  have sR := CR.1
  replace CR := CR.on d2
  have zb := b2.size
  have za := ba.size
  obtain ⟨Lb, hLb⟩ : ∃ Lb, Lb = xa.heap.size := ⟨_, rfl⟩
  have CL : Cells w2 Lb #[.int .i64 e, .slice pf (oneN n0) cf, .slice none 0 0] := by rw [hLb]; exact (Cells.made xa _ _).like e2
  replace rf := ((rf.on ((Below.refl _ _).alloc (Nat.le_refl _) _)).like e2).low zb
  rw [← hLb] at rf ⊢
  have zL : w1.heap.size ≤ Lb := by rw [hLb]; exact Nat.le_trans zb za
  have zl : Lb < w2.heap.size := CL.1
  clear hLb e2 t2 b2 ba zb za
  replace h0 := h0.keep d2
  replace h1 := h1.keep d2
  replace h3 := h3.keep d2
  replace hg := hg.on d2
  refine hKK _ _ ?_
  clear hKK KK
  refine BesB.seq fun KK hKK => ?_
  refine BesB.code tameAS rfl rfl (by kernel_rfl) (noFWr _) fun K hK θ3 x3 b3 => ?_
  go_wp2_with (fail)
  refine (implAgreed_any p0 p1 n0 n1 q0 q1 ss ts x3 h0.len ((h0.ret θ3).keep b3).into ((h1.ret θ3).keep b3).into h0.low h1.low h1.cap).mono ?_
  rintro z xa ⟨pa, ca, rfl, ra, ba⟩
  go_wp2_with (fail)
  intro w3 e3 t3
  have d3 : Below w2.heap.size w2 w3 := e3.belowR (θ := θ3) t3 (below_on b3 ba)
  have k3 := below_on k2 d3
  replace ra := (ra.like e3).low b3.size
  clear e3 t3 b3 ba
  replace h0 := h0.keep d3
  replace h1 := h1.keep d3
  replace h3 := h3.keep d3
  replace rf := rf.on d3
  replace CR := CR.on d3
  replace CL := CL.on d3
  replace hg := hg.on d3
  refine hKK _ _ ?_
  clear hKK KK
  refine BesB.seq fun KK hKK => ?_
  refine BesB.code tameAS rfl rfl (by kernel_rfl) (noFWr _) fun K hK θ4 x4 b4 => ?_
  go_wp2_with (fail)
  refine (implPadded_any p3 n3 q3 xs x4 h3.len ((h3.ret θ4).keep b4).into).mono ?_
  rintro z xa ⟨pt, ct, rfl, rt, ba⟩
  go_wp2_with (fail)
  intro w4 e4 t4
  have d4 : Below w3.heap.size w3 w4 := e4.belowR (θ := θ4) t4 (below_on b4 ba)
  have k4 := below_on k3 d4
  replace rt := (rt.like e4).low b4.size
  clear e4 t4 b4 ba
  replace h0 := h0.keep d4
  replace h1 := h1.keep d4
  replace h3 := h3.keep d4
  replace rf := rf.on d4
  replace ra := ra.on d4
  replace CR := CR.on d4
  replace CL := CL.on d4
  replace hg := hg.on d4
  refine hKK _ _ ?_
  clear hKK KK
  by_cases hA : agOk ss ts n0 n1
  rotate_left
  · rw [decide_eq_false hA]
    have hno : ¬ wroteOk ss ts n0 n1 n3 e := fun h => hA h.1
    refine BesB.seq fun KK hKK => ?_
    refine BesB.seq fun KK3 hKK3 => ?_
    refine BesB.code tameAS rfl rfl (by kernel_rfl) (noFWr _) fun K hK θ5 x5 b5 => ?_
    go_wp2_with (fail)
    intro w5 e5 t5
    have d5 : Below w4.heap.size w4 w5 := e5.belowR (θ := θ5) t5 b5
    have k5 := below_on k4 d5
    clear e5 t5 b5
    replace CR := CR.on d5
    refine hKK3 _ _ ?_
    clear hKK3 KK3
    refine BesB.cond true rfl ?_
    simp only [reduceIte]
    refine BesB.seq fun KK2 hKK2 => ?_
    refine BesB.code tameAS rfl rfl (by kernel_rfl) (noFWr _) fun K hK θ6 x6 b6 => ?_
    replace CR := (CR.ret θ6).on b6
    have m0 : x6.cell? ⟨R, 0, none⟩ = some (.int .i64 0) := (CR.2 0).1
    have f0 := (CR.2 0).2
    have D1 := CR.set 0 (by simp) (.int .i64 0)
    have m1 : (x6.setCell ⟨R, 0, none⟩ (.int .i64 0)).cell? ⟨R, 1, none⟩ = some (.slice none 0 0) := (D1.2 1).1
    have f1 := (D1.2 1).2
    have D2 := D1.set 1 (by simp) (.slice none 0 0)
    have m2 : ((x6.setCell ⟨R, 0, none⟩ (.int .i64 0)).setCell ⟨R, 1, none⟩ (.slice none 0 0)).cell? ⟨R, 2, none⟩ = some (.slice none 0 0) := (D2.2 2).1
    have f2 := (D2.2 2).2
    have D3 := D2.set 2 (by simp) (.slice none 0 0)
    obtain ⟨X3, hX3⟩ : ∃ X3, X3 = ((x6.setCell ⟨R, 0, none⟩ (.int .i64 0)).setCell ⟨R, 1, none⟩ (.slice none 0 0)).setCell ⟨R, 2, none⟩ (.slice none 0 0) := ⟨_, rfl⟩
    have bX : Below w.heap.size x6 X3 := by rw [hX3]; exact (((Below.refl _ _).setCell (show w.heap.size ≤ R by omega) _).setCell (show w.heap.size ≤ R by omega) _).setCell (show w.heap.size ≤ R by omega) _
    rw [← hX3] at D3
    replace hX3 : Hid (((x6.setCell ⟨R, 0, none⟩ (.int .i64 0)).setCell ⟨R, 1, none⟩ (.slice none 0 0)).setCell ⟨R, 2, none⟩ (.slice none 0 0) = X3) := hX3.symm
    clear D1 D2
    go_wp2_with (first | rw [hX3.out])
    intro w6 e6 t6
    have d6 : Below w.heap.size w5 w6 := e6.below (θ := θ6) t6 ((below_lower b6 k5.size).trans bX)
    have k6 := k5.trans d6
    have CR9 := D3.like e6
    refine hKK2 _ _ ?_
    clear hKK2 KK2
    refine BesB.ret (v := .tuple #[.agg #[.int .i64 0, .slice none 0 0, .slice none 0 0], .bool false]) Tryz.func8 rfl rfl (fun X hX => ?_) ?_
    · have y0 : X.cell? ⟨R, 0, none⟩ = some (.int .i64 0) := ((CR9.on hX).2 0).1
      have y1 : X.cell? ⟨R, 1, none⟩ = some (.slice none 0 0) := ((CR9.on hX).2 1).1
      have y2 : X.cell? ⟨R, 2, none⟩ = some (.slice none 0 0) := ((CR9.on hX).2 2).1
      simp only [results, Tryz.f8]
      go_simp
    · exact next _ w6 ⟨_, by rw [decide_eq_false hno], letIs_no hno (letIs_none _ _ k6.size), k6⟩
  rw [decide_eq_true hA]
  by_cases hk : n3 ≤ 200
  rotate_left
  · have hNN0 : noteN n3 = 0 := if_neg hk
    rw [hNN0]
    have hno : ¬ wroteOk ss ts n0 n1 n3 e := fun h => hk h.2.1
    refine BesB.seq fun KK hKK => ?_
    refine BesB.seq fun KK3 hKK3 => ?_
    refine BesB.code tameAS rfl rfl (by kernel_rfl) (noFWr _) fun K hK θ5 x5 b5 => ?_
    go_wp2_with (fail)
    intro w5 e5 t5
    have d5 : Below w4.heap.size w4 w5 := e5.belowR (θ := θ5) t5 b5
    have k5 := below_on k4 d5
    clear e5 t5 b5
    replace CR := CR.on d5
    refine hKK3 _ _ ?_
    clear hKK3 KK3
    refine BesB.cond true rfl ?_
    simp only [reduceIte]
    refine BesB.seq fun KK2 hKK2 => ?_
    refine BesB.code tameAS rfl rfl (by kernel_rfl) (noFWr _) fun K hK θ6 x6 b6 => ?_
    replace CR := (CR.ret θ6).on b6
    have m0 : x6.cell? ⟨R, 0, none⟩ = some (.int .i64 0) := (CR.2 0).1
    have f0 := (CR.2 0).2
    have D1 := CR.set 0 (by simp) (.int .i64 0)
    have m1 : (x6.setCell ⟨R, 0, none⟩ (.int .i64 0)).cell? ⟨R, 1, none⟩ = some (.slice none 0 0) := (D1.2 1).1
    have f1 := (D1.2 1).2
    have D2 := D1.set 1 (by simp) (.slice none 0 0)
    have m2 : ((x6.setCell ⟨R, 0, none⟩ (.int .i64 0)).setCell ⟨R, 1, none⟩ (.slice none 0 0)).cell? ⟨R, 2, none⟩ = some (.slice none 0 0) := (D2.2 2).1
    have f2 := (D2.2 2).2
    have D3 := D2.set 2 (by simp) (.slice none 0 0)
    obtain ⟨X3, hX3⟩ : ∃ X3, X3 = ((x6.setCell ⟨R, 0, none⟩ (.int .i64 0)).setCell ⟨R, 1, none⟩ (.slice none 0 0)).setCell ⟨R, 2, none⟩ (.slice none 0 0) := ⟨_, rfl⟩
    have bX : Below w.heap.size x6 X3 := by rw [hX3]; exact (((Below.refl _ _).setCell (show w.heap.size ≤ R by omega) _).setCell (show w.heap.size ≤ R by omega) _).setCell (show w.heap.size ≤ R by omega) _
    rw [← hX3] at D3
    replace hX3 : Hid (((x6.setCell ⟨R, 0, none⟩ (.int .i64 0)).setCell ⟨R, 1, none⟩ (.slice none 0 0)).setCell ⟨R, 2, none⟩ (.slice none 0 0) = X3) := hX3.symm
    clear D1 D2
    go_wp2_with (first | rw [hX3.out])
    intro w6 e6 t6
    have d6 : Below w.heap.size w5 w6 := e6.below (θ := θ6) t6 ((below_lower b6 k5.size).trans bX)
    have k6 := k5.trans d6
    have CR9 := D3.like e6
    refine hKK2 _ _ ?_
    clear hKK2 KK2
    refine BesB.ret (v := .tuple #[.agg #[.int .i64 0, .slice none 0 0, .slice none 0 0], .bool false]) Tryz.func8 rfl rfl (fun X hX => ?_) ?_
    · have y0 : X.cell? ⟨R, 0, none⟩ = some (.int .i64 0) := ((CR9.on hX).2 0).1
      have y1 : X.cell? ⟨R, 1, none⟩ = some (.slice none 0 0) := ((CR9.on hX).2 1).1
      have y2 : X.cell? ⟨R, 2, none⟩ = some (.slice none 0 0) := ((CR9.on hX).2 2).1
      simp only [results, Tryz.f8]
      go_simp
    · exact next _ w6 ⟨_, by rw [decide_eq_false hno], letIs_no hno (letIs_none _ _ k6.size), k6⟩
  obtain rfl : n0 = 32 := hA.1.1
  obtain rfl : n1 = 32 := hA.1.2
  have hNp : 0 < noteN n3 := by
    have := (noteM_le n3).1
    rw [noteN, if_pos hk]
    omega
  have hFl : (frL ss 32).length = 32 := frL_length rfl
  have hFb : ∀ x ∈ frL ss 32, 0 ≤ x ∧ x < 256 := frL_byte
  have hSb := agL_byte ss ts 32 32
  have hSl : (agL ss ts 32 32).length = 32 := by rw [agL_length, agN, if_pos hA]
  have e32 : oneN 32 = 32 := rfl
  have eS : agN ss ts 32 32 = 32 := if_pos hA
  rw [e32] at rf CL ⊢
  rw [eS] at ra ⊢
  have eF : oneL (ptZ ss baseL) 32 = frL ss 32 := rfl
  rw [eF] at rf
  have hHl : (headL e (frL ss 32)).length = headN e 32 := by rw [headL_length, hFl]
  have hHb : ∀ x ∈ headL e (frL ss 32), 0 ≤ x ∧ x < 256 := headL_byte hFb
  have hHN : headN e 32 ≤ 41 := by
    have := fitN_le e 2
    unfold headN
    omega
  have hKl := kyL_length (agL ss ts 32 32) (frL ss 32) ts
  have hCl := ncL_length (agL ss ts 32 32) (frL ss 32) ts
  have hKb : ∀ x ∈ kyL (agL ss ts 32 32) (frL ss 32) ts, 0 ≤ x ∧ x < 256 := fun x hx => bothL_byte _ _ _ x (List.mem_of_mem_take hx)
  have hCb : ∀ x ∈ ncL (agL ss ts 32 32) (frL ss 32) ts, 0 ≤ x ∧ x < 256 := fun x hx => bothL_byte _ _ _ x (List.mem_of_mem_drop hx)
  have hbox : seaL (kyL (agL ss ts 32 32) (frL ss 32) ts) (ncL (agL ss ts 32 32) (frL ss 32) ts) (headL e (frL ss 32)) (noteL xs) = boxL ss ts xs 32 32 e := rfl
  have g1 : ¬ (noteN n3 : Int) = 0 := by omega
  refine BesB.seq fun KK hKK => ?_
  refine BesB.code tameAS rfl rfl (by kernel_rfl) (noFWr _) fun K hK θ5 x5 b5 => ?_
  go_wp2_with (fail)
  intro w5 e5 t5
  have d5 : Below w4.heap.size w4 w5 := e5.belowR (θ := θ5) t5 b5
  have k5 := below_on k4 d5
  clear e5 t5 b5
  replace h0 := h0.keep d5
  replace h1 := h1.keep d5
  replace h3 := h3.keep d5
  replace rf := rf.on d5
  replace ra := ra.on d5
  replace rt := rt.on d5
  replace CR := CR.on d5
  replace CL := CL.on d5
  replace hg := hg.on d5
  refine hKK _ _ ?_
  clear hKK KK
  refine BesB.seq fun KK hKK => ?_
  refine BesB.code tameAS rfl rfl (by kernel_rfl) (noFWr _) fun K hK θ6 x6 b6 => ?_
  have l1 : x6.cell? ⟨Lb, 1, none⟩ = some (.slice pf 32 cf) := (((CL.ret θ6).on b6).2 1).1
  go_wp2_with (fail)
  refine (implKeys_any pa pf p1 32 32 32 ca cf q1 (agL ss ts 32 32) (frL ss 32) ts x6 (by omega) hn1 hSl hFl h1.len ((ra.ret θ6).on b6).bytes ((rf.ret θ6).on b6).bytes ((h1.ret θ6).keep b6).into hSb hFb h1.low (hg.keys.ret θ6 |> fun h => keys_below h b6)).mono ?_
  rintro z xa ⟨pk, ck, pn, cn, rfl, pr, ba⟩
  obtain ⟨la, ha, lb, hb, rk, rn, qa, qb, qd⟩ := pr
  go_wp2_with (fail)
  intro w6 e6 t6
  have d6 : Below w5.heap.size w5 w6 := e6.belowR (θ := θ6) t6 (below_on b6 ba)
  have k6 := below_on k5 d6
  replace rk := rk.like e6
  replace rn := rn.like e6
  clear e6 t6 b6 ba l1 qa qb qd
  replace h0 := h0.keep d6
  replace h1 := h1.keep d6
  replace h3 := h3.keep d6
  replace rf := rf.on d6
  replace ra := ra.on d6
  replace rt := rt.on d6
  replace CR := CR.on d6
  replace CL := CL.on d6
  replace hg := hg.on d6
  refine hKK _ _ ?_
  clear hKK KK
  refine BesB.seq fun KK hKK => ?_
  refine BesB.ctlG (fun _ => stepG_region) ?_
  refine BesB.value (v := .slice pk 32 ck) rfl rfl (by decide) (fun _ => by simp [go_sem, execOp, Act.eval]) (fun _ => by simp [go_sem, execOp, Act.eval]) ?_
  walk_nrm
  refine BesB.value (v := .slice pn 12 cn) rfl rfl (by decide) (fun _ => by simp [go_sem, execOp, Act.eval]) (fun _ => by simp [go_sem, execOp, Act.eval]) ?_
  walk_nrm
  refine BesB.load (v := .agg #[.int .i64 e, .slice pf 32 cf, .slice none 0 0]) rfl rfl (by decide) rfl (fun X hX => ?_) ?_
  · have y0 : X.cell? ⟨Lb, 0, none⟩ = some (.int .i64 e) := ((CL.on hX).2 0).1
    have y1 : X.cell? ⟨Lb, 1, none⟩ = some (.slice pf 32 cf) := ((CL.on hX).2 1).1
    have y2 : X.cell? ⟨Lb, 2, none⟩ = some (.slice none 0 0) := ((CL.on hX).2 2).1
    simp [go_sem, execOp, Act.eval, y0, y1, y2]
  walk_nrm
  refine BesB.call rfl rfl (by decide) rfl Tryz.func39 (by kernel_rfl) (by kernel_rfl) ?_
  walk_nrm
  refine (BCalls.row tameAS (by decide) (by decide) (by intro t _ _; simp [alsS]) fun θ X b => letterHead_any e pf none 32 cf 0 0 (frL ss 32) X he (by omega) hFl ((rf.ret θ).on b).bytes) _ _ _ fun v w7 hv => ?_
  obtain ⟨ph, ch, rfl, rh, d7⟩ := hv
  have k7 := below_on k6 d7
  replace h0 := h0.keep d7
  replace h1 := h1.keep d7
  replace h3 := h3.keep d7
  replace rf := rf.on d7
  replace ra := ra.on d7
  replace rt := rt.on d7
  replace rk := rk.on d7
  replace rn := rn.on d7
  replace CR := CR.on d7
  replace CL := CL.on d7
  replace hg := hg.on d7
  rw [Frame.finish_at]
  walk_nrm
  refine BesB.value (v := .slice pt (noteN n3) ct) rfl rfl (by decide) (fun _ => by simp [go_sem, execOp, Act.eval]) (fun _ => by simp [go_sem, execOp, Act.eval]) ?_
  walk_nrm
  refine BesB.call rfl rfl (by decide) rfl Tryz.func38 (by kernel_rfl) (by kernel_rfl) ?_
  walk_nrm
  refine implSeal_b pk pn ph pt 32 ck 12 cn (headN e 32) ch (noteN n3) ct _ _ _ _ C ce _ hg.gr (rk.tee hKb) (rn.tee hCb) (rh.tee hHb) (rt.tee hNb) _ _ _ fun v w8 hv => ?_
  obtain ⟨pb, cb, rfl, rb, d8⟩ := hv
  have k8 := below_on k7 d8
  replace h0 := h0.keep d8
  replace h1 := h1.keep d8
  replace h3 := h3.keep d8
  replace rf := rf.on d8
  replace ra := ra.on d8
  replace rt := rt.on d8
  replace rk := rk.on d8
  replace rn := rn.on d8
  replace rh := rh.on d8
  replace CR := CR.on d8
  replace CL := CL.on d8
  replace hg := hg.on d8
  have hs : 32 = 32 ∧ 12 = 12 ∧ headN e 32 ≤ 1500 ∧ noteN n3 ≤ 1500 := ⟨rfl, rfl, by omega, by omega⟩
  have eN : sealN 32 12 (headN e 32) (noteN n3) = noteN n3 + 16 := if_pos hs
  have eB : sealB 32 12 (headN e 32) (noteN n3) = true := decide_eq_true hs
  have eX : sealX 32 12 (headN e 32) (noteN n3) (kyL (agL ss ts 32 32) (frL ss 32) ts) (ncL (agL ss ts 32 32) (frL ss 32) ts) (headL e (frL ss 32)) (noteL xs) = boxL ss ts xs 32 32 e := if_pos hs
  rw [eN, eX] at rb
  rw [eN, eB]
  clear eN eB eX hs hbox
  rw [Frame.finish_at]
  walk_nrm
  refine BesB.value (v := .tuple #[.slice pb (noteN n3 + 16) cb, .bool true]) rfl rfl (by decide) (fun _ => by simp [go_sem, execOp, Act.eval]) (fun _ => by simp [go_sem, execOp, Act.eval]) ?_
  walk_nrm
  refine BesB.value (v := .slice pb (noteN n3 + 16) cb) rfl rfl (by decide) (fun _ => by simp [go_sem, execOp, Act.eval]) (fun _ => by simp [go_sem, execOp, Act.eval]) ?_
  walk_nrm
  refine BesB.value (v := .bool true) rfl rfl (by decide) (fun _ => by simp [go_sem, execOp, Act.eval]) (fun _ => by simp [go_sem, execOp, Act.eval]) ?_
  walk_nrm
  refine BesB.value (v := .pointer (some ⟨Lb, 2, none⟩)) rfl rfl (by decide) (fun _ => by simp [go_sem, execOp, Act.eval]) (fun _ => by simp [go_sem, execOp, Act.eval]) ?_
  walk_nrm
  refine BesB.store (ad := ⟨Lb, 2, none⟩) (v := .slice pb (noteN n3 + 16) cb) rfl rfl (by decide) rfl (by show _ ≤ Lb; have := k1.size; omega) (fun X hX => ?_) fun X hX => ?_
  · have y2 : X.cell? ⟨Lb, 2, none⟩ = some (.slice none 0 0) := ((CL.on hX).2 2).1
    have f2 := ((CL.on hX).2 2).2
    simp [go_sem, execOp, Act.eval, y2, f2]
  walk_nrm
  have sb := d8.size
  have s3 := d3.size
  have s4 := d4.size
  have s5 := d5.size
  have s6 := d6.size
  have s7 := d7.size
  have CL9 := (CL.on hX).set 2 (by simp) (.slice pb (noteN n3 + 16) cb)
  have CR9 := (CR.on hX).other (a := ⟨Lb, 2, none⟩) (.slice pb (noteN n3 + 16) cb) (show R ≠ Lb by omega)
  have rb9 := (rb.on hX).set_below (a := ⟨Lb, 2, none⟩) (show Lb < w7.heap.size by omega) (.slice pb (noteN n3 + 16) cb)
  obtain ⟨w9, hw9⟩ : ∃ w9, w9 = X.setCell ⟨Lb, 2, none⟩ (.slice pb (noteN n3 + 16) cb) := ⟨_, rfl⟩
  have rf9 : Own 5 w9 w1.heap.size Lb (.slice pf 32 cf) 32 (frL ss 32) := by rw [hw9]; exact own_setCell_above (rf.on hX) (Nat.le_refl _) _
  have k9 : Below w.heap.size w w9 := by rw [hw9]; exact (k8.trans (below_lower hX k8.size)).setCell (show w.heap.size ≤ Lb by omega) _
  rw [← hw9] at CL9 CR9 rb9 ⊢
  have z9 : w9.heap.size = X.heap.size := by rw [hw9]; simp [World.setCell]
  have zX := hX.size
  clear hw9 CL CR rb rf hX
  refine BesB.ctlG (fun _ => stepG_region_end) ?_
  refine hKK _ _ ?_
  clear hKK KK
  have CO := fun X => implLetterOk_any e pf pb 32 cf (noteN n3 + 16) cb X (by omega)
  by_cases hE : 0 ≤ e ∧ e ≤ 65535
  rotate_left
  · have hno : ¬ wroteOk ss ts 32 32 n3 e := fun h => hE ⟨h.2.2.1, h.2.2.2⟩
    rw [decide_eq_false (show ¬ letOk e 32 (noteN n3 + 16) from fun h => hE ⟨h.1, h.2.1⟩)] at CO
    refine BesB.seq fun KK hKK => ?_
    refine BesB.seq fun KK3 hKK3 => ?_
    refine BesB.code tameAS rfl rfl (by kernel_rfl) (noFWr _) fun K hK θ10 x10 b10 => ?_
    have l0 : x10.cell? ⟨Lb, 0, none⟩ = some (.int .i64 e) := (((CL9.ret θ10).on b10).2 0).1
    have l1 : x10.cell? ⟨Lb, 1, none⟩ = some (.slice pf 32 cf) := (((CL9.ret θ10).on b10).2 1).1
    have l2 : x10.cell? ⟨Lb, 2, none⟩ = some (.slice pb (noteN n3 + 16) cb) := (((CL9.ret θ10).on b10).2 2).1
    go_wp2_with (fail)
    refine (CO x10).mono ?_
    rintro z xa ⟨rfl, ba⟩
    go_wp2_with (fail)
    intro w10 e10 t10
    have d10 : Below w9.heap.size w9 w10 := e10.belowR (θ := θ10) t10 (below_on b10 ba)
    have k10 := below_on k9 d10
    have CR := CR9.on d10
    clear e10 t10 b10 ba l0 l1 l2
    refine hKK3 _ _ ?_
    clear hKK3 KK3
    refine BesB.cond true rfl ?_
    simp only [reduceIte]
    refine BesB.seq fun KK2 hKK2 => ?_
    refine BesB.code tameAS rfl rfl (by kernel_rfl) (noFWr _) fun K hK θ11 x11 b11 => ?_
    replace CR := (CR.ret θ11).on b11
    have m0 : x11.cell? ⟨R, 0, none⟩ = some (.int .i64 0) := (CR.2 0).1
    have f0 := (CR.2 0).2
    have D1 := CR.set 0 (by simp) (.int .i64 0)
    have m1 : (x11.setCell ⟨R, 0, none⟩ (.int .i64 0)).cell? ⟨R, 1, none⟩ = some (.slice none 0 0) := (D1.2 1).1
    have f1 := (D1.2 1).2
    have D2 := D1.set 1 (by simp) (.slice none 0 0)
    have m2 : ((x11.setCell ⟨R, 0, none⟩ (.int .i64 0)).setCell ⟨R, 1, none⟩ (.slice none 0 0)).cell? ⟨R, 2, none⟩ = some (.slice none 0 0) := (D2.2 2).1
    have f2 := (D2.2 2).2
    have D3 := D2.set 2 (by simp) (.slice none 0 0)
    obtain ⟨X3, hX3⟩ : ∃ X3, X3 = ((x11.setCell ⟨R, 0, none⟩ (.int .i64 0)).setCell ⟨R, 1, none⟩ (.slice none 0 0)).setCell ⟨R, 2, none⟩ (.slice none 0 0) := ⟨_, rfl⟩
    have bX : Below w.heap.size x11 X3 := by rw [hX3]; exact (((Below.refl _ _).setCell (show w.heap.size ≤ R by omega) _).setCell (show w.heap.size ≤ R by omega) _).setCell (show w.heap.size ≤ R by omega) _
    rw [← hX3] at D3
    replace hX3 : Hid (((x11.setCell ⟨R, 0, none⟩ (.int .i64 0)).setCell ⟨R, 1, none⟩ (.slice none 0 0)).setCell ⟨R, 2, none⟩ (.slice none 0 0) = X3) := hX3.symm
    clear D1 D2
    go_wp2_with (first | rw [hX3.out])
    intro w11 e11 t11
    have d11 : Below w.heap.size w10 w11 := e11.below (θ := θ11) t11 ((below_lower b11 k10.size).trans bX)
    have k11 := k10.trans d11
    have CR9 := D3.like e11
    refine hKK2 _ _ ?_
    clear hKK2 KK2
    refine BesB.ret (v := .tuple #[.agg #[.int .i64 0, .slice none 0 0, .slice none 0 0], .bool false]) Tryz.func8 rfl rfl (fun X hX => ?_) ?_
    · have y0 : X.cell? ⟨R, 0, none⟩ = some (.int .i64 0) := ((CR9.on hX).2 0).1
      have y1 : X.cell? ⟨R, 1, none⟩ = some (.slice none 0 0) := ((CR9.on hX).2 1).1
      have y2 : X.cell? ⟨R, 2, none⟩ = some (.slice none 0 0) := ((CR9.on hX).2 2).1
      simp only [results, Tryz.f8]
      go_simp
    · exact next _ w11 ⟨_, by rw [decide_eq_false hno], letIs_no hno (letIs_none _ _ k11.size), k11⟩
  rw [decide_eq_true (show letOk e 32 (noteN n3 + 16) from ⟨hE.1, hE.2, rfl, by omega, by omega⟩)] at CO
  have hok : wroteOk ss ts 32 32 n3 e := ⟨hA, hk, hE.1, hE.2⟩
  refine BesB.seq fun KK hKK => ?_
  refine BesB.code tameAS rfl rfl (by kernel_rfl) (noFWr _) fun K hK θ10 x10 b10 => ?_
  have l0 : x10.cell? ⟨Lb, 0, none⟩ = some (.int .i64 e) := (((CL9.ret θ10).on b10).2 0).1
  have l1 : x10.cell? ⟨Lb, 1, none⟩ = some (.slice pf 32 cf) := (((CL9.ret θ10).on b10).2 1).1
  have l2 : x10.cell? ⟨Lb, 2, none⟩ = some (.slice pb (noteN n3 + 16) cb) := (((CL9.ret θ10).on b10).2 2).1
  go_wp2_with (fail)
  refine (CO x10).mono ?_
  rintro z xa ⟨rfl, ba⟩
  go_wp2_with (fail)
  intro w10 e10 t10
  have d10 : Below w9.heap.size w9 w10 := e10.belowR (θ := θ10) t10 (below_on b10 ba)
  have k10 := below_on k9 d10
  clear e10 t10 b10 ba l0 l1 l2
  replace rf9 := rf9.on d10
  replace rb9 := rb9.on d10
  replace CL9 := CL9.on d10
  replace CR9 := CR9.on d10
  refine hKK _ _ ?_
  clear hKK KK
  refine BesB.seq fun KK hKK => ?_
  refine BesB.code tameAS rfl rfl (by kernel_rfl) (noFWr _) fun K hK θ11 x11 b11 => ?_
  have l0 : x11.cell? ⟨Lb, 0, none⟩ = some (.int .i64 e) := (((CL9.ret θ11).on b11).2 0).1
  have l1 : x11.cell? ⟨Lb, 1, none⟩ = some (.slice pf 32 cf) := (((CL9.ret θ11).on b11).2 1).1
  have l2 : x11.cell? ⟨Lb, 2, none⟩ = some (.slice pb (noteN n3 + 16) cb) := (((CL9.ret θ11).on b11).2 2).1
  replace CR9 := (CR9.ret θ11).on b11
  replace rf9 := (rf9.ret θ11).on b11
  replace rb9 := (rb9.ret θ11).on b11
  have zb : w10.heap.size ≤ x11.heap.size := b11.size
  have zd := d10.size
  have zk := k1.size
  have m0 : x11.cell? ⟨R, 0, none⟩ = some (.int .i64 0) := (CR9.2 0).1
  have f0 := (CR9.2 0).2
  have D1 := CR9.set 0 (by simp) (.int .i64 e)
  have m1 : (x11.setCell ⟨R, 0, none⟩ (.int .i64 e)).cell? ⟨R, 1, none⟩ = some (.slice none 0 0) := (D1.2 1).1
  have f1 := (D1.2 1).2
  have D2 := D1.set 1 (by simp) (.slice pf 32 cf)
  have m2 : ((x11.setCell ⟨R, 0, none⟩ (.int .i64 e)).setCell ⟨R, 1, none⟩ (.slice pf 32 cf)).cell? ⟨R, 2, none⟩ = some (.slice none 0 0) := (D2.2 2).1
  have f2 := (D2.2 2).2
  have D3 := D2.set 2 (by simp) (.slice pb (noteN n3 + 16) cb)
  obtain ⟨X3, hX3⟩ : ∃ X3, X3 = ((x11.setCell ⟨R, 0, none⟩ (.int .i64 e)).setCell ⟨R, 1, none⟩ (.slice pf 32 cf)).setCell ⟨R, 2, none⟩ (.slice pb (noteN n3 + 16) cb) := ⟨_, rfl⟩
  have bX : Below w.heap.size x11 X3 := by rw [hX3]; exact (((Below.refl _ _).setCell (show w.heap.size ≤ R by omega) _).setCell (show w.heap.size ≤ R by omega) _).setCell (show w.heap.size ≤ R by omega) _
  rw [← hX3] at D3
  have rfX := ((rf9.set_below (a := ⟨R, 0, none⟩) (show R < w1.heap.size by omega) (.int .i64 e)).set_below (a := ⟨R, 1, none⟩) (show R < w1.heap.size by omega) (.slice pf 32 cf)).set_below (a := ⟨R, 2, none⟩) (show R < w1.heap.size by omega) (.slice pb (noteN n3 + 16) cb)
  have rbX := ((rb9.set_below (a := ⟨R, 0, none⟩) (show R < w7.heap.size by omega) (.int .i64 e)).set_below (a := ⟨R, 1, none⟩) (show R < w7.heap.size by omega) (.slice pf 32 cf)).set_below (a := ⟨R, 2, none⟩) (show R < w7.heap.size by omega) (.slice pb (noteN n3 + 16) cb)
  rw [← hX3] at rfX rbX
  have zX3 : X3.heap.size = x11.heap.size := by rw [hX3]; simp [World.setCell]
  replace hX3 : Hid (((x11.setCell ⟨R, 0, none⟩ (.int .i64 e)).setCell ⟨R, 1, none⟩ (.slice pf 32 cf)).setCell ⟨R, 2, none⟩ (.slice pb (noteN n3 + 16) cb) = X3) := hX3.symm
  clear D1 D2
  go_wp2_with (first | rw [hX3.out])
  intro w11 e11 t11
  have d11 : Below w.heap.size w10 w11 := e11.below (θ := θ11) t11 ((below_lower b11 k10.size).trans bX)
  have k11 := k10.trans d11
  have CR11 := D3.like e11
  have rf11 := rfX.like e11
  have rb11 := rbX.like e11
  have z11 := e11.size
  refine hKK _ _ ?_
  clear hKK KK
  refine BesB.ret (v := .tuple #[.agg #[.int .i64 e, .slice pf 32 cf, .slice pb (noteN n3 + 16) cb], .bool true]) Tryz.func8 rfl rfl (fun X hX => ?_) ?_
  · have y0 : X.cell? ⟨R, 0, none⟩ = some (.int .i64 e) := ((CR11.on hX).2 0).1
    have y1 : X.cell? ⟨R, 1, none⟩ = some (.slice pf 32 cf) := ((CR11.on hX).2 1).1
    have y2 : X.cell? ⟨R, 2, none⟩ = some (.slice pb (noteN n3 + 16) cb) := ((CR11.on hX).2 2).1
    simp only [results, Tryz.f8]
    go_simp
  · exact next _ w11 ⟨_, by rw [decide_eq_true hok], letIs_yes hok ⟨pf, cf, pb, cb, Lb, rfl, rf11.low k1.size, ⟨(rb11.low (by omega)).1, fun g hg' => Nat.lt_of_lt_of_le (rb11.2 g hg') (by omega)⟩, by omega, by omega⟩, k11⟩
def wrK (ss ts : List Int) (n m k : Nat) (e : Int) : Bool := decide (wroteOk ss ts n m k e)
theorem specWrite_k (p0 p1 p3 : Option Addr) (n0 q0 n1 q1 n3 q3 : Nat) (ss ts xs : List Int) (e : Int) (w : World) (hn3 : n3 ≤ 9223372036854775807) (hx0 : ss.length = n0) (hx1 : ts.length = n1) (hx3 : xs.length = n3) (h0 : BytesIn w p0 n0 ss) (h1 : BytesIn w p1 n1 ts) (h3 : BytesIn w p3 n3 xs) (hb0 : ∀ x ∈ ss, 0 ≤ x ∧ x < 256) (hb1 : ∀ x ∈ ts, 0 ≤ x ∧ x < 256) :
    Calls Tryz.prog 9 #[.slice p0 n0 q0, .slice p1 n1 q1, .int .i64 e, .slice p3 n3 q3] w fun z w' => ∃ v, z = .returned (.tuple #[v, .bool (wrK ss ts n0 n1 n3 e)]) ∧ LetIs w.heap.size w' v (wrE ss ts n0 n1 n3 e) (wrF ss ts n0 n1 n3 e) (wrB ss ts n0 n1 n3 e) (wrFl ss ts xs n0 n1 n3 e) (wrBl ss ts xs n0 n1 n3 e) ∧ Below w.heap.size w w' :=
  specWrite_any p0 p1 p3 n0 q0 n1 q1 n3 q3 ss ts xs e w hn3 hx0 hx1 hx3 h0 h1 h3 hb0 hb1
theorem implWrite_k (p0 p1 p3 : Option Addr) (n0 q0 n1 q1 n3 q3 : Nat) (ss ts xs : List Int) (e : Int) (C : Array Value) (ce : TypeId) (w : World) (hg : Gk C ce w) (h0 : BytesT w p0 n0 q0 ss) (h1 : BytesT w p1 n1 q1 ts) (h3 : BytesT w p3 n3 q3 xs) (he : e ≤ 9223372036854775807) (hn1 : n1 ≤ 1048576) :
    BCalls Tryz.prog 8 #[.slice p0 n0 q0, .slice p1 n1 q1, .int .i64 e, .slice p3 n3 q3] w fun v w2 => ∃ l, v = .tuple #[l, .bool (wrK ss ts n0 n1 n3 e)] ∧ LetIs w.heap.size w2 l (wrE ss ts n0 n1 n3 e) (wrF ss ts n0 n1 n3 e) (wrB ss ts n0 n1 n3 e) (wrFl ss ts xs n0 n1 n3 e) (wrBl ss ts xs n0 n1 n3 e) ∧ Below w.heap.size w w2 :=
  implWrite_b p0 p1 p3 n0 q0 n1 q1 n3 q3 ss ts xs e C ce w hg h0 h1 h3 he hn1
theorem alloc_letter (W : World) : (Instr.alloc 27 true (.tuple #[])).run Tryz.prog W = .ok (.pointer (some ⟨W.heap.size, 0, none⟩)) (W.alloc (.cells #[.int .i64 0, .slice none 0 0, .slice none 0 0] 27)) := by go_simp
theorem store_letter (W : World) (B : Nat) (e : Int) (p q : Option Addr) (n c m d : Nat) (z0 z1 z2 : Value) (hC : Cells W B #[z0, z1, z2]) : (Instr.storeAt 27 (.pointer (some ⟨B, 0, none⟩)) (.agg #[(.int .i64 e), (.slice p n c), (.slice q m d)])).run Tryz.prog W = .ok () (((W.setCell ⟨B, 0, none⟩ (.int .i64 e)).setCell ⟨B, 1, none⟩ (.slice p n c)).setCell ⟨B, 2, none⟩ (.slice q m d)) := by
  have m0 : W.cell? ⟨B, 0, none⟩ = some z0 := (hC.2 0).1
  have f0 := (hC.2 0).2
  have D1 := hC.set 0 (by simp) (.int .i64 e)
  have m1 : (W.setCell ⟨B, 0, none⟩ (.int .i64 e)).cell? ⟨B, 1, none⟩ = some z1 := (D1.2 1).1
  have f1 := (D1.2 1).2
  have D2 := D1.set 1 (by simp) (.slice p n c)
  have m2 : ((W.setCell ⟨B, 0, none⟩ (.int .i64 e)).setCell ⟨B, 1, none⟩ (.slice p n c)).cell? ⟨B, 2, none⟩ = some z2 := (D2.2 2).1
  have f2 := (D2.2 2).2
  clear D1 D2 hC
  go_simp
theorem BesB.boxL {Q : Goroutine → World → Prop} {cs : List Frame} {w : World} {b : Frame} {a : Act} {k : List Item} {ops : Array Oper} {i j : Nat} {rest : List Nat} {o1 o2 : Oper} {x y : Operand} {e : Int} {p q : Option Addr} {n c m d : Nat} (ho1 : ops[i]? = some o1) (hw1 : Region.wanted o1 (yielded ops a.tmps) = true) (hop1 : o1.op = .alloc 27) (ho2 : ops[j]? = some o2) (hw2 : ∀ v, Region.wanted o2 (yielded ops (a.put o1.dst v).tmps) = true) (hop2 : o2.op = .store 27 x y) (hk : b.kind ≠ .early)
    (hx : ∀ v, (a.put o1.dst v).eval x = v) (hy : ∀ v, (a.put o1.dst v).eval y = .agg #[(.int .i64 e), (.slice p n c), (.slice q m d)]) (gR : Tryz.prog.globals.size ≤ w.heap.size)
    (h : ∀ w2 B, Below w.heap.size w w2 → w.heap.size ≤ B → B < w2.heap.size → Cells w2 B #[(.int .i64 e), (.slice p n c), (.slice q m d)] → BesB Tryz.prog Q (G (b.at ((a.put o1.dst (.pointer (some ⟨B, 0, none⟩))).put o2.dst undef) (.inRegion ops rest :: k)) cs) w2) :
    BesB Tryz.prog Q (G (b.at a (.inRegion ops (i :: j :: rest) :: k)) cs) w := by
  have zA : ∀ (X : World) (o : Obj), CellsTo Tryz.prog.globals.size X → CellsTo Tryz.prog.globals.size (X.alloc o) := fun X o hX b hb' => by
    obtain ⟨o', e1, e2⟩ := hX b hb'
    exact ⟨o', (((Below.refl X.heap.size X).alloc (Nat.le_refl _) o).block b (Array.getElem?_eq_some_iff.1 e1).1).trans e1, e2⟩
  refine .does (α := OkNext alsS) ho1 hw1 hk (by unfold execOp; rw [hop1]; exact hush_value (hush_alloc _ _ _)) fun w1 hG hb => ⟨.pointer (some ⟨w1.heap.size, 0, none⟩), w1.alloc (.cells #[.int .i64 0, .slice none 0 0, .slice none 0 0] 27), .inl ?_, by simp, zA _ _ hG, ?_⟩
  · unfold execOp
    rw [hop1]
    simp [alloc_letter]
  · have hC := Cells.made w1 #[.int .i64 0, .slice none 0 0, .slice none 0 0] 27
    refine .does (α := OkNext alsS) ho2 (hw2 _) hk (by unfold execOp; rw [hop2]; exact hush_unit (hush_storeAt _ _ _)) fun w3 hG3 hb3 => ⟨undef, (((w3.setCell ⟨w1.heap.size, 0, none⟩ (.int .i64 e)).setCell ⟨w1.heap.size, 1, none⟩ (.slice p n c)).setCell ⟨w1.heap.size, 2, none⟩ (.slice q m d)), .inr ⟨?_, rfl⟩, by simp [World.setCell], fun b hb' => ?_, ?_⟩
    · unfold execOp
      rw [hop2]
      simp [hx, hy, store_letter w3 w1.heap.size e p q n c m d _ _ _ (hC.on hb3)]
    · obtain ⟨o', e1, e2⟩ := hG3 b hb'
      have := hb.size
      exact ⟨o', ((Below.heap_setCell _ _ _ b (by show b ≠ w1.heap.size; omega)).trans ((Below.heap_setCell _ _ _ b (by show b ≠ w1.heap.size; omega)).trans (Below.heap_setCell _ _ _ b (by show b ≠ w1.heap.size; omega)))).trans e1, e2⟩
    · have s1 := hb.size
      have s3 := hb3.size
      rw [show (w1.alloc (.cells #[.int .i64 0, .slice none 0 0, .slice none 0 0] 27)).heap.size = w1.heap.size + 1 by simp] at s3
      refine h _ w1.heap.size ((((below_on (hb.alloc s1 _) hb3).setCell (show w.heap.size ≤ w1.heap.size from s1) _).setCell (show w.heap.size ≤ w1.heap.size from s1) _).setCell (show w.heap.size ≤ w1.heap.size from s1) _) s1 (by simp [World.setCell]; omega) ?_
      exact (((hC.on hb3).set 0 (by simp) (.int .i64 e)).set 1 (by simp) (.slice p n c)).set 2 (by simp) (.slice q m d)
end Go.Proofs.YtnpffnhiefgglaaGreatDoor
