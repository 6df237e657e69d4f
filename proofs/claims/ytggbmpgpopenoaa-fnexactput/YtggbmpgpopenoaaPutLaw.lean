/-
  FnExactPut returns true for any list of items and any item, and writes nothing that was there; conditions: lengths that there can be.
-/
import Derived.Test.YtggbmpgpopenoaaQueueWalk
import Derived.Test.YtggbmpgpopenoaaSpecPut
import Derived.Deep.RegionHeld3
namespace Go.Proofs.Ytggbmpgpopenoaa
open Go.RowKit
set_option maxRecDepth 100000

theorem putL_con {x y : ItA} (hxy : x.con = y.con) : ∀ {its its' : List ItA}, its'.map ItA.con = its.map ItA.con → (putL x its').map ItA.con = (putL y its).map ItA.con := fun {its its'} h => by
  have e := hxy
  simp only [ItA.con, Prod.mk.injEq] at e
  have hk : ∀ {its its' : List ItA}, its'.map ItA.con = its.map ItA.con → (putK x its').map ItA.con = (putK y its).map ItA.con := fun {its its'} h => by
    have f : ∀ (z : ItA) (l : List ItA), (putK z l).map ItA.con = (l.map ItA.con).filter (fun (c : Con) => !(decide (0 < z.t) && (decide (c.1 = z.s) && decide (c.2.1 = z.t)))) := fun z l => by
      rw [putK, List.filter_map]; rfl
    rw [f, f, h, e.1, e.2.1]
  rw [putL, putL, List.map_append, List.map_append, hk h]
  simp [hxy]
theorem putL_lens {x : ItA} {its : List ItA} (h : ∀ y ∈ its, y.xs.length = y.n) (hx : x.xs.length = x.n) : ∀ y ∈ putL x its, y.xs.length = y.n := fun y hy => by
  rcases List.mem_append.1 hy with hy | hy
  · exact h y (List.mem_filter.1 hy).1
  · rw [List.mem_singleton] at hy; rw [hy]; exact hx
theorem putR_small {y : ItA} {its : List ItA} {N : Nat} (h : ((its.map ItA.con).map conN).sum + conN y.con ≤ N) : (((putR y its).map ItA.con).map conN).sum ≤ N := by
  have hp : (((putL y its).map ItA.con).map conN).sum ≤ N := by
    rw [putL, List.map_append, List.map_append, List.sum_append]
    have h1 : (((putK y its).map ItA.con).map conN).sum ≤ ((its.map ItA.con).map conN).sum := sub_sum ((List.filter_sublist.map _).map _)
    have h2 : (([y].map ItA.con).map conN).sum = conN y.con := by simp
    omega
  unfold putR
  split
  · exact hp
  · omega
theorem putR_len (y : ItA) (its : List ItA) (h : its.length ≤ 1048576) : (putR y its).length ≤ 1048576 := by
  unfold putR
  by_cases e : qB (putL y its) = true
  · rw [if_pos e]
    have : QOk (putL y its) := by
      refine Classical.byContradiction fun q => ?_
      rw [qB_false q] at e
      cases e
    have := this.1
    omega
  · rw [if_neg e]; exact h

set_option maxHeartbeats 8000000 in
theorem put_small_law (p0 : Option Addr) (n0 c0 : Nat) (its0 : List ItA) (y0 : ItA) (w : World) (hl0 : its0.length = n0) (hI0 : ItemsIn w p0 n0 its0) (ok0 : ∀ x ∈ its0, x.Ok w) (oky : y0.Ok w) (hsm : n0 + totI its0 + (y0.s.size + y0.n) ≤ 1048576) :
    Calls Try.prog 6 #[.slice p0 n0 c0, .agg #[.string y0.s, .int .i64 y0.t, .int .i64 y0.d, .slice y0.p y0.n y0.c]] w fun e w' => e = .returned (.bool true) ∧ Below w.heap.size w w' := by
  obtain ⟨W, hW⟩ : ∃ W, W = w.alloc (.cells #[.string y0.s, .int .i64 y0.t, .int .i64 y0.d, .slice y0.p y0.n y0.c] 45) := ⟨_, rfl⟩
  have kA : Below w.heap.size w W := by rw [hW]; exact made_below _ _ (Below.refl _ _)
  have Ca : Cells W w.heap.size #[.string y0.s, .int .i64 y0.t, .int .i64 y0.d, .slice y0.p y0.n y0.c] := by rw [hW]; exact Cells.made _ _ _
  replace hW : Hid (w.alloc (.cells #[.string y0.s, .int .i64 y0.t, .int .i64 y0.d, .slice y0.p y0.n y0.c] 45) = W) := hW.symm
  replace hI0 := itemsIn_on hI0 kA
  replace ok0 : ∀ x ∈ its0, x.Ok W := fun x hx => (ok0 x hx).on kA
  replace oky := oky.on kA
  have hny : y0.n ≤ 1048576 := by omega
  have hsy : y0.s.size ≤ 1048576 := by omega
  have hn0 : n0 ≤ 1048576 := by omega
  have hsmall := small_of ok0 (by omega)
  have hfit := fit_of (its := its0) (by omega)
  have hS0 := con_sum ok0 (show totI its0 ≤ 1048576 by omega)
  have hS1 : ((its0.map ItA.con).map conN).sum ≤ totI its0 := con_tot ok0
  have hbig : ∀ x ∈ its0, x.s.size ≤ 9223372036854775807 ∧ x.n ≤ 9223372036854775807 := fun x hx => ⟨(ok0 x hx).hs, (ok0 x hx).hn⟩
  have CZ := fun X => szItemS_any p0 n0 c0 its0 1048576 X (by omega) hl0
  obtain ⟨left, hleft⟩ : ∃ l : Int, l = (if (n0 : Int) + totI its0 ≤ 1048576 then (1048576 : Int) - n0 - totI its0 else -1) := ⟨_, rfl⟩
  rw [← hleft] at CZ
  have hl2 : ¬ left < 0 := by rw [hleft, if_pos (by omega)]; omega
  have hl4 : (y0.s.size : Int) + y0.n ≤ left ∧ left ≤ 1048576 := by rw [hleft, if_pos (by omega)]; omega
  clear hleft
  obtain ⟨nT, F, LC, hnT, hST, CS, CI⟩ : ∃ (nT : Nat) (F : Bool) (LC : List Con), nT ≤ 1048576 ∧ (LC.map conN).sum ≤ 1048576 ∧ (∀ (p : Option Addr) (c : Nat) (ia : List ItA) (q : Option Addr) (cq : Nat) (X : World) (lo hi lo2 hi2 : Nat), Hid (ia.map ItA.con = its0.map ItA.con) → OwnItems X lo hi (.slice p n0 c) n0 ia → Own 5 X lo2 hi2 (.slice q y0.n cq) y0.n y0.xs → Calls Try.prog 12 #[.slice p n0 c, .agg #[.string y0.s, .int .i64 y0.t, .int .i64 y0.d, .slice q y0.n cq]] X fun e w' => ∃ (q : Option Addr) (cq : Nat) (its' : List ItA), e = .returned (.tuple #[.slice q nT cq, .bool F]) ∧ OwnItems w' X.heap.size w'.heap.size (.slice q nT cq) nT its' ∧ Hid (its'.map ItA.con = LC) ∧ Below X.heap.size X w') ∧ (∀ (p : Option Addr) (c : Nat) (ia : List ItA) (q : Option Addr) (cq : Nat) (X : World) (lo hi lo2 hi2 : Nat), Hid (ia.map ItA.con = its0.map ItA.con) → OwnItems X lo hi (.slice p n0 c) n0 ia → Own 5 X lo2 hi2 (.slice q y0.n cq) y0.n y0.xs → Calls Try.prog 11 #[.slice p n0 c, .agg #[.string y0.s, .int .i64 y0.t, .int .i64 y0.d, .slice q y0.n cq]] X fun e w' => ∃ (q : Option Addr) (cq : Nat) (its' : List ItA), e = .returned (.tuple #[.slice q nT cq, .bool F]) ∧ OwnItems w' X.heap.size w'.heap.size (.slice q nT cq) nT its' ∧ Hid (its'.map ItA.con = LC) ∧ Below X.heap.size X w') := by
    refine ⟨(putR y0 its0).length, qB (putL y0 its0), (putR y0 its0).map ItA.con, putR_len y0 its0 (by omega), putR_small (by have : conN y0.con = y0.n := oky.len; omega), ?_, ?_⟩
    · intro p c ia q cq X lo hi lo2 hi2 e o oq
      have e1 := putL_con (x := ⟨y0.s, y0.t, y0.d, q, y0.n, cq, y0.xs⟩) (y := y0) rfl e.out
      have e2 := qB_con e1 (putL_lens (fun x hx => (ok0 x hx).len) oky.len) (putL_lens o.lens oq.len)
      have e3 : (putR ⟨y0.s, y0.t, y0.d, q, y0.n, cq, y0.xs⟩ ia).map ItA.con = (putR y0 its0).map ItA.con := by
        unfold putR
        rw [e2]
        split
        · exact e1
        · exact e.out
      have hl := con_len e3
      have C := specPut_any p n0 c ia ⟨y0.s, y0.t, y0.d, q, y0.n, cq, y0.xs⟩ X hn0 o.len o.items (o.lies (list_small e hS0)) (fits o e hS0) (fun x hx => (small_con e.out hsmall x hx).1) ⟨oky.hn, oq.len, oq.bytes⟩ hny hsy
      rw [hl, e2, e3] at C
      exact C
    · intro p c ia q cq X lo hi lo2 hi2 e o oq
      have e1 := putL_con (x := ⟨y0.s, y0.t, y0.d, q, y0.n, cq, y0.xs⟩) (y := y0) rfl e.out
      have e2 := qB_con e1 (putL_lens (fun x hx => (ok0 x hx).len) oky.len) (putL_lens o.lens oq.len)
      have e3 : (putR ⟨y0.s, y0.t, y0.d, q, y0.n, cq, y0.xs⟩ ia).map ItA.con = (putR y0 its0).map ItA.con := by
        unfold putR
        rw [e2]
        split
        · exact e1
        · exact e.out
      have hl := con_len e3
      have C := implPut_any p n0 c ia ⟨y0.s, y0.t, y0.d, q, y0.n, cq, y0.xs⟩ X hn0 o.len o.items (o.lies (list_small e hS0)) (fits o e hS0) (fun x hx => (small_con e.out hsmall x hx).1) ⟨oky.hn, oq.len, oq.bytes⟩ hny hsy
      rw [hl, e2, e3] at C
      exact C
  have hFF : (F != F) = false := by simp
  go_enter Try.func6, Try.ntmps6
  go_wp2_with (rw [hW.out])
  obtain ⟨B0, hB0⟩ : ∃ B0, B0 = w.heap.size := ⟨_, rfl⟩
  rw [← hB0] at Ca ⊢
  have vB : B0 < W.heap.size := Ca.1
  clear hB0 hW
  refine (CZ _ hI0 hbig (by omega)).mono ?_
  rintro e w1 ⟨rfl, b1⟩
  clear CZ hbig
  have k1 := b1
  have z1 := b1.size
  replace Ca := Ca.on b1
  have la_0 : w1.cell? ⟨B0, 0, none⟩ = some (.string y0.s) := (Ca.2 0).1
  have la_1 : w1.cell? ⟨B0, 1, none⟩ = some (.int .i64 y0.t) := (Ca.2 1).1
  have la_2 : w1.cell? ⟨B0, 2, none⟩ = some (.int .i64 y0.d) := (Ca.2 2).1
  have la_3 : w1.cell? ⟨B0, 3, none⟩ = some (.slice y0.p y0.n y0.c) := (Ca.2 3).1
  go_wp2_with (fail)
  clear la_0 la_1 la_2 la_3
  refine (szItem_any y0.s y0.t y0.d y0.p y0.n y0.c left _ oky.hs oky.hn (by omega)).mono ?_
  rintro e w2 ⟨rfl, b2⟩
  have k2 := below_on k1 b2
  have z2 := b2.size
  replace Ca := Ca.on b2
  clear b2
  obtain ⟨left2, hleft2⟩ : ∃ l : Int, l = szI y0.s y0.n left := ⟨_, rfl⟩
  rw [← hleft2]
  have hl3 : ¬ left2 < 0 := by rw [hleft2, szI, if_pos (by omega)]; omega
  clear hleft2
  have HK : ∀ w', Below w2.heap.size w2 w' → w'.cell? ⟨B0, 0, none⟩ = some (.string y0.s) ∧ w'.cell? ⟨B0, 1, none⟩ = some (.int .i64 y0.t) ∧ w'.cell? ⟨B0, 2, none⟩ = some (.int .i64 y0.d) ∧ w'.cell? ⟨B0, 3, none⟩ = some (.slice y0.p y0.n y0.c) := fun w' hX => ⟨((Ca.on hX).2 0).1, ((Ca.on hX).2 1).1, ((Ca.on hX).2 2).1, ((Ca.on hX).2 3).1⟩
  have bdr : Below w2.heap.size w2 w2.drew := (Below.refl _ _).drew
  have kdr := below_on k2 bdr
  go_wp2_with (fail)
  go_region_held3 (fun w' => w'.cell? ⟨B0, 0, none⟩ = some (.string y0.s) ∧ w'.cell? ⟨B0, 1, none⟩ = some (.int .i64 y0.t) ∧ w'.cell? ⟨B0, 2, none⟩ = some (.int .i64 y0.d) ∧ w'.cell? ⟨B0, 3, none⟩ = some (.slice y0.p y0.n y0.c)) (exact HK _ (by repeat (with_reducible (first | exact Below.refl _ _ | refine below_drewL ?_ | refine below_on ?_ bq1 | refine below_on ?_ bq2 | refine below_on ?_ bq3)))) (first | (go_at_call 34; refine (toItemS_own p0 n0 c0 its0 _ hn0 hl0 (itemsIn_on hI0 kdr) (fun x hx => (ok0 x hx).on kdr) hfit).mono ?_; rintro z wa3 ⟨pq, cq, iq, rfl, rq, eq, bq1⟩) | (go_at_call 31; refine (toItem_own y0.s y0.t y0.d y0.p y0.n y0.c y0.xs _ hny oky.len (in_below oky.bytes (below_on kdr bq1))).mono ?_; rintro z wb3 ⟨pq2, cq2, rfl, rq2, bq2⟩) | (go_at_call 12; refine (CS pq cq iq pq2 cq2 _ _ _ _ _ eq (rq.on bq2) rq2).mono ?_; rintro z w3 ⟨pw, cw, iw, rfl, rw, ew, bq3⟩))
  have zq3 := (below_on (below_on bdr bq1) bq2).size
  have b3 : Below w2.heap.size w2 w3 := below_on (below_on (below_on bdr bq1) bq2) bq3
  clear bq1 bq2 bq3 bdr kdr HK
  have k3 := below_on k2 b3
  have z3 := b3.size
  replace Ca := Ca.on b3
  clear b3
  clear rq rq2 eq
  go_wp2_with (fail)
  refine (toItemS_own p0 n0 c0 its0 _ hn0 hl0 (itemsIn_on hI0 k3) (fun x hx => (ok0 x hx).on k3) hfit).mono ?_
  rintro e w4 ⟨px, cx, ix, rfl, rx, ex, b4⟩
  have k4 := below_on k3 b4
  have z4 := b4.size
  replace rw := rw.on b4
  replace Ca := Ca.on b4
  clear b4
  have la_0 : w4.cell? ⟨B0, 0, none⟩ = some (.string y0.s) := (Ca.2 0).1
  have la_1 : w4.cell? ⟨B0, 1, none⟩ = some (.int .i64 y0.t) := (Ca.2 1).1
  have la_2 : w4.cell? ⟨B0, 2, none⟩ = some (.int .i64 y0.d) := (Ca.2 2).1
  have la_3 : w4.cell? ⟨B0, 3, none⟩ = some (.slice y0.p y0.n y0.c) := (Ca.2 3).1
  go_wp2_with (fail)
  clear la_0 la_1 la_2 la_3
  refine (toItem_own y0.s y0.t y0.d y0.p y0.n y0.c y0.xs _ hny oky.len (in_below oky.bytes k4)).mono ?_
  rintro e w5 ⟨py, cy, rfl, oy, b5⟩
  have k5 := below_on k4 b5
  have z5 := b5.size
  replace rw := rw.on b5
  replace rx := rx.on b5
  replace Ca := Ca.on b5
  clear b5
  obtain ⟨w6, hw6⟩ : ∃ X, X = w5.alloc (.cells #[.string y0.s, .int .i64 y0.t, .int .i64 y0.d, .slice py y0.n cy] 26) := ⟨_, rfl⟩
  have b6 : Below w5.heap.size w5 w6 := by rw [hw6]; exact made_below _ _ (Below.refl _ _)
  have Cy : Cells w6 w5.heap.size #[.string y0.s, .int .i64 y0.t, .int .i64 y0.d, .slice py y0.n cy] := by rw [hw6]; exact Cells.made _ _ _
  replace hw6 : Hid (w5.alloc (.cells #[.string y0.s, .int .i64 y0.t, .int .i64 y0.d, .slice py y0.n cy] 26) = w6) := hw6.symm
  have k6 := below_on k5 b6
  have z6 := b6.size
  replace rw := rw.on b6
  replace rx := rx.on b6
  replace oy := oy.on b6
  replace Ca := Ca.on b6
  clear b6
  have ly_0 : w6.cell? ⟨w5.heap.size, 0, none⟩ = some (.string y0.s) := (Cy.2 0).1
  have ly_1 : w6.cell? ⟨w5.heap.size, 1, none⟩ = some (.int .i64 y0.t) := (Cy.2 1).1
  have ly_2 : w6.cell? ⟨w5.heap.size, 2, none⟩ = some (.int .i64 y0.d) := (Cy.2 2).1
  have ly_3 : w6.cell? ⟨w5.heap.size, 3, none⟩ = some (.slice py y0.n cy) := (Cy.2 3).1
  go_wp2_with (rw [hw6.out])
  clear hw6
  obtain ⟨By, hBy⟩ : ∃ B, B = w5.heap.size := ⟨_, rfl⟩
  have vy : w5.heap.size ≤ By ∧ By < w6.heap.size := by rw [hBy]; exact ⟨Nat.le_refl _, Cy.1⟩
  rw [← hBy] at Cy ly_0 ly_1 ly_2 ly_3 ⊢
  clear hBy
  clear ly_0 ly_1 ly_2 ly_3
  refine (CI px cx ix py cy _ _ _ _ _ ex rx oy).mono ?_
  rintro e w7 ⟨pg, cg, ig, rfl, rg, eg, b7⟩
  have k7 := below_on k6 b7
  have z7 := b7.size
  replace rw := rw.on b7
  replace rx := rx.on b7
  replace oy := oy.on b7
  replace Ca := Ca.on b7
  replace Cy := Cy.on b7
  clear b7
  go_wp2_with (fail)
  refine (eqItemS_any pg pw nT cg nT cw ig iw _ (by omega) rg.len rw.len rg.items rw.items (rg.lies (list_small eg hST)) (rw.lies (list_small ew hST))).mono ?_
  rintro e w8 ⟨rfl, b8⟩
  have k8 := below_on k7 b8
  have z8 := b8.size
  replace rw := rw.on b8
  replace rx := rx.on b8
  replace rg := rg.on b8
  replace oy := oy.on b8
  replace Ca := Ca.on b8
  replace Cy := Cy.on b8
  clear b8
  rw [decide_eq_true (eg.out.trans ew.out.symm)]
  go_wp2_with (fail)
  refine (toItemS_own p0 n0 c0 its0 _ hn0 hl0 (itemsIn_on hI0 k8) (fun x hx => (ok0 x hx).on k8) hfit).mono ?_
  rintro e w9 ⟨pb, cb, ib, rfl, rb, eb, b9⟩
  have k9 := below_on k8 b9
  have z9 := b9.size
  replace rw := rw.on b9
  replace rx := rx.on b9
  replace rg := rg.on b9
  replace oy := oy.on b9
  replace Ca := Ca.on b9
  replace Cy := Cy.on b9
  clear b9
  go_wp2_with (fail)
  refine (eqItemS_any px pb n0 cx n0 cb ix ib _ (by omega) rx.len rb.len rx.items rb.items (rx.lies (list_small ex hS0)) (rb.lies (list_small eb hS0))).mono ?_
  rintro e w10 ⟨rfl, b10⟩
  have k10 := below_on k9 b10
  have z10 := b10.size
  replace rw := rw.on b10
  replace rx := rx.on b10
  replace rg := rg.on b10
  replace rb := rb.on b10
  replace oy := oy.on b10
  replace Ca := Ca.on b10
  replace Cy := Cy.on b10
  clear b10
  rw [decide_eq_true (ex.out.trans eb.out.symm)]
  clear rb
  have HK : ∀ w', Below w10.heap.size w10 w' → w'.cell? ⟨B0, 0, none⟩ = some (.string y0.s) ∧ w'.cell? ⟨B0, 1, none⟩ = some (.int .i64 y0.t) ∧ w'.cell? ⟨B0, 2, none⟩ = some (.int .i64 y0.d) ∧ w'.cell? ⟨B0, 3, none⟩ = some (.slice y0.p y0.n y0.c) ∧ w'.cell? ⟨By, 0, none⟩ = some (.string y0.s) ∧ w'.cell? ⟨By, 1, none⟩ = some (.int .i64 y0.t) ∧ w'.cell? ⟨By, 2, none⟩ = some (.int .i64 y0.d) ∧ w'.cell? ⟨By, 3, none⟩ = some (.slice py y0.n cy) := fun w' hX => ⟨((Ca.on hX).2 0).1, ((Ca.on hX).2 1).1, ((Ca.on hX).2 2).1, ((Ca.on hX).2 3).1, ((Cy.on hX).2 0).1, ((Cy.on hX).2 1).1, ((Cy.on hX).2 2).1, ((Cy.on hX).2 3).1⟩
  have bdr : Below w10.heap.size w10 w10.drew := (Below.refl _ _).drew
  have kdr := below_on k10 bdr
  go_wp2_with (fail)
  go_region_held3 (fun w' => w'.cell? ⟨B0, 0, none⟩ = some (.string y0.s) ∧ w'.cell? ⟨B0, 1, none⟩ = some (.int .i64 y0.t) ∧ w'.cell? ⟨B0, 2, none⟩ = some (.int .i64 y0.d) ∧ w'.cell? ⟨B0, 3, none⟩ = some (.slice y0.p y0.n y0.c) ∧ w'.cell? ⟨By, 0, none⟩ = some (.string y0.s) ∧ w'.cell? ⟨By, 1, none⟩ = some (.int .i64 y0.t) ∧ w'.cell? ⟨By, 2, none⟩ = some (.int .i64 y0.d) ∧ w'.cell? ⟨By, 3, none⟩ = some (.slice py y0.n cy)) (exact HK _ (by repeat (with_reducible (first | exact Below.refl _ _ | refine below_drewL ?_ | refine below_on ?_ bq1 | refine below_on ?_ bq2 | refine below_on ?_ bq3)))) (first | (go_at_call 31; refine (toItem_own y0.s y0.t y0.d y0.p y0.n y0.c y0.xs _ hny oky.len (in_below oky.bytes kdr)).mono ?_; rintro z wa11 ⟨pq, cq, rfl, rq, bq1⟩) | (go_at_call 32; refine (eqItem_any y0.s y0.s y0.t y0.t y0.d y0.d py _ y0.n cy y0.n _ y0.xs y0.xs _ (by omega) oy.len rq.len ((oy.on bdr).on bq1).bytes rq.bytes).mono ?_; rintro z w11 ⟨rfl, bq2⟩))
  have zq11 := (below_on bdr bq1).size
  have b11 : Below w10.heap.size w10 w11 := below_on (below_on bdr bq1) bq2
  clear bq1 bq2 bdr kdr HK
  have k11 := below_on k10 b11
  have z11 := b11.size
  replace rw := rw.on b11
  replace rx := rx.on b11
  replace rg := rg.on b11
  replace oy := oy.on b11
  replace Ca := Ca.on b11
  replace Cy := Cy.on b11
  clear b11
  clear rq
  have CM := fun X h => markItemS_own w3.heap.size w4.heap.size px n0 cx ix 1 X (by omega) (by omega) (mk_small (k := 1) rx ex hS0 (by omega) (by omega)) h
  have lKX := mk_small (k := 1) rx ex hS0 (by omega) (by omega)
  obtain ⟨KX, hKX⟩ : ∃ K, K = mkK 1 ix := ⟨_, rfl⟩
  rw [← hKX] at CM lKX
  have mKX : ¬ (KX : Int) < 0 := by omega
  have dKX : ((KX : Int) != (KX : Int)) = false := by simp
  replace hKX : Hid (KX = mkK 1 ix) := hKX
  go_wp2_with (fail)
  refine (CM _ rx).mono ?_
  rintro e w12 ⟨rfl, q12, W12⟩
  clear CM
  have k12 := W12.low k11 (by omega) (by omega)
  have z12 := W12.size
  replace rw := rw.past13 W12 (by omega)
  replace rg := rg.past13 W12 (by omega)
  replace oy := oy.past13 W12 (by omega)
  replace Ca := Ca.past13 W12 (by omega)
  replace Cy := Cy.past13 W12 (by omega)
  clear rx W12
  have rx := q12
  clear q12
  have ly_0 : w12.cell? ⟨By, 0, none⟩ = some (.string y0.s) := (Cy.2 0).1
  have ly_1 : w12.cell? ⟨By, 1, none⟩ = some (.int .i64 y0.t) := (Cy.2 1).1
  have ly_2 : w12.cell? ⟨By, 2, none⟩ = some (.int .i64 y0.d) := (Cy.2 2).1
  have ly_3 : w12.cell? ⟨By, 3, none⟩ = some (.slice py y0.n cy) := (Cy.2 3).1
  go_wp2_with (fail)
  clear ly_0 ly_1 ly_2 ly_3
  refine (markItem_own w4.heap.size w5.heap.size y0.s y0.t y0.d py y0.n cy y0.xs (KX : Int) _ (by omega) (by omega) (by omega) oy).mono ?_
  rintro e w13 ⟨rfl, q13, W13, _⟩
  have k13 := W13.low k12 (by omega) (by omega)
  have z13 := W13.size
  replace rw := rw.past13 W13 (by omega)
  replace rx := rx.past13 W13 (by omega)
  replace rg := rg.past13 W13 (by omega)
  replace Ca := Ca.past13 W13 (by omega)
  replace Cy := Cy.past13 W13 (by omega)
  clear oy W13
  have oy := q13
  clear q13
  obtain ⟨K1, hK1⟩ : ∃ K1, K1 = KX + y0.n := ⟨_, rfl⟩
  have eK1 : (KX : Int) + (y0.n : Int) = (K1 : Int) := by omega
  have mK1 : ¬ (K1 : Int) < 0 := by omega
  clear hK1
  rw [eK1]
  go_wp2_with (fail)
  refine (eqItemS_any pg pw nT cg nT cw ig iw _ (by omega) rg.len rw.len rg.items rw.items (rg.lies (list_small eg hST)) (rw.lies (list_small ew hST))).mono ?_
  rintro e w14 ⟨rfl, b14⟩
  have k14 := below_on k13 b14
  have z14 := b14.size
  replace rw := rw.on b14
  replace rx := rx.on b14
  replace rg := rg.on b14
  replace oy := oy.on b14
  replace Ca := Ca.on b14
  replace Cy := Cy.on b14
  clear b14
  rw [decide_eq_true (eg.out.trans ew.out.symm)]
  clear rx
  clear oy Cy
  have CM := fun X h => markItemS_own w6.heap.size w7.heap.size pg nT cg ig 1 X (by omega) (by omega) (mk_small (k := 1) rg eg hST (by omega) (by omega)) h
  have lM := mk_small (k := 1) rg eg hST (by omega) (by omega)
  obtain ⟨M, hM⟩ : ∃ K, K = mkK 1 ig := ⟨_, rfl⟩
  rw [← hM] at CM lM
  have mM : ¬ (M : Int) < 0 := by omega
  have dM : ((M : Int) != (M : Int)) = false := by simp
  replace hM : Hid (M = mkK 1 ig) := hM
  go_wp2_with (fail)
  refine (CM _ rg).mono ?_
  rintro e w15 ⟨rfl, q15, W15⟩
  clear CM
  have k15 := W15.low k14 (by omega) (by omega)
  have z15 := W15.size
  replace rw := rw.past13 W15 (by omega)
  replace Ca := Ca.past13 W15 (by omega)
  clear rg W15
  have rg := q15
  clear q15
  have CH := fun X h1 h2 => heldItemS_any pg nT cg ig 1 X (by omega) (by simpa [mkI_length] using rg.len) (by omega) (by rw [← hM.out]; exact lM) h1 h2
  rw [← hM.out] at CH
  go_wp2_with (fail)
  refine (CH _ rg.items (mkI_bytes rg)).mono ?_
  rintro e w16 ⟨rfl, b16⟩
  have k16 := below_on k15 b16
  have z16 := b16.size
  replace rw := rw.on b16
  replace rg := rg.on b16
  replace Ca := Ca.on b16
  clear b16
  clear CH
  have HK : ∀ w', Below w16.heap.size w16 w' → w'.cell? ⟨B0, 0, none⟩ = some (.string y0.s) ∧ w'.cell? ⟨B0, 1, none⟩ = some (.int .i64 y0.t) ∧ w'.cell? ⟨B0, 2, none⟩ = some (.int .i64 y0.d) ∧ w'.cell? ⟨B0, 3, none⟩ = some (.slice y0.p y0.n y0.c) := fun w' hX => ⟨((Ca.on hX).2 0).1, ((Ca.on hX).2 1).1, ((Ca.on hX).2 2).1, ((Ca.on hX).2 3).1⟩
  have bdr : Below w16.heap.size w16 w16.drew := (Below.refl _ _).drew
  have kdr := below_on k16 bdr
  go_wp2_with (fail)
  go_region_held3 (fun w' => w'.cell? ⟨B0, 0, none⟩ = some (.string y0.s) ∧ w'.cell? ⟨B0, 1, none⟩ = some (.int .i64 y0.t) ∧ w'.cell? ⟨B0, 2, none⟩ = some (.int .i64 y0.d) ∧ w'.cell? ⟨B0, 3, none⟩ = some (.slice y0.p y0.n y0.c)) (exact HK _ (by repeat (with_reducible (first | exact Below.refl _ _ | refine below_drewL ?_ | refine below_on ?_ bq1 | refine below_on ?_ bq2 | refine below_on ?_ bq3)))) (first | (go_at_call 34; refine (toItemS_own p0 n0 c0 its0 _ hn0 hl0 (itemsIn_on hI0 kdr) (fun x hx => (ok0 x hx).on kdr) hfit).mono ?_; rintro z wa17 ⟨pq, cq, iq, rfl, rq, eq, bq1⟩) | (go_at_call 31; refine (toItem_own y0.s y0.t y0.d y0.p y0.n y0.c y0.xs _ hny oky.len (in_below oky.bytes (below_on kdr bq1))).mono ?_; rintro z wb17 ⟨pq2, cq2, rfl, rq2, bq2⟩) | (go_at_call 11; refine (CI pq cq iq pq2 cq2 _ _ _ _ _ eq (rq.on bq2) rq2).mono ?_; rintro z w17 ⟨ph, ch, ih, rfl, rh, eh, bq3⟩))
  have zq17 := (below_on (below_on bdr bq1) bq2).size
  have b17 : Below w16.heap.size w16 w17 := below_on (below_on (below_on bdr bq1) bq2) bq3
  clear bq1 bq2 bq3 bdr kdr HK
  have k17 := below_on k16 b17
  have z17 := b17.size
  replace rw := rw.on b17
  replace rg := rg.on b17
  replace Ca := Ca.on b17
  clear b17
  clear rq rq2 eq
  go_wp2_with (fail)
  refine (eqItemS_any ph pw nT ch nT cw ih iw _ (by omega) rh.len rw.len rh.items rw.items (rh.lies (list_small eh hST)) (rw.lies (list_small ew hST))).mono ?_
  rintro e w18 ⟨rfl, b18⟩
  have k18 := below_on k17 b18
  have z18 := b18.size
  replace rw := rw.on b18
  replace rg := rg.on b18
  replace rh := rh.on b18
  replace Ca := Ca.on b18
  clear b18
  rw [decide_eq_true (eh.out.trans ew.out.symm)]
  have CH := fun X h1 h2 => heldItemS_any pg nT cg ig 1 X (by omega) (by simpa [mkI_length] using rg.len) (by omega) (by rw [← hM.out]; exact lM) h1 h2
  rw [← hM.out] at CH
  go_wp2_with (fail)
  refine (CH _ rg.items (mkI_bytes rg)).mono ?_
  rintro e w19 ⟨rfl, b19⟩
  have k19 := below_on k18 b19
  have z19 := b19.size
  replace rw := rw.on b19
  replace rg := rg.on b19
  replace rh := rh.on b19
  replace Ca := Ca.on b19
  clear b19
  clear CH
  go_wp2_with (fail)
  go_ret
  exact ⟨rfl, below_on kA k19⟩

set_option maxHeartbeats 8000000 in
theorem put_law (p0 : Option Addr) (n0 c0 : Nat) (its0 : List ItA) (y0 : ItA) (w : World) (hl0 : its0.length = n0) (hI0 : ItemsIn w p0 n0 its0) (ok0 : ∀ x ∈ its0, x.Ok w) (oky : y0.Ok w) (hn0 : n0 ≤ 9223372036854775807) :
    Calls Try.prog 6 #[.slice p0 n0 c0, .agg #[.string y0.s, .int .i64 y0.t, .int .i64 y0.d, .slice y0.p y0.n y0.c]] w fun e w' => e = .returned (.bool true) ∧ Below w.heap.size w w' := by
  by_cases hsm : n0 + totI its0 + (y0.s.size + y0.n) ≤ 1048576
  · exact put_small_law p0 n0 c0 its0 y0 w hl0 hI0 ok0 oky hsm
  · have kA : ∀ o, Below w.heap.size w (w.alloc o) := fun o => made_below _ _ (Below.refl _ _)
    have hbig : ∀ x ∈ its0, x.s.size ≤ 9223372036854775807 ∧ x.n ≤ 9223372036854775807 := fun x hx => ⟨(ok0 x hx).hs, (ok0 x hx).hn⟩
    have CZ := fun o => szItemS_any p0 n0 c0 its0 1048576 (w.alloc o) hn0 hl0 (itemsIn_on hI0 (kA o)) hbig (by omega)
    have hys := oky.hs
    have hyn := oky.hn
    by_cases hs0 : n0 + totI its0 ≤ 1048576
    · obtain ⟨left, hleft⟩ : ∃ l : Int, l = (if (n0 : Int) + totI its0 ≤ 1048576 then (1048576 : Int) - n0 - totI its0 else -1) := ⟨_, rfl⟩
      rw [← hleft] at CZ
      have hl4 : 0 ≤ left ∧ left ≤ 1048576 ∧ ¬ (y0.s.size : Int) + y0.n ≤ left := by rw [hleft, if_pos (by omega)]; omega
      have hl2 : ¬ left < 0 := by omega
      have C2 := fun X => szItem_any y0.s y0.t y0.d y0.p y0.n y0.c left X hys hyn (by omega)
      have e1 : szI y0.s y0.n left = -1 := by unfold szI; rw [if_neg hl4.2.2]
      rw [e1] at C2
      obtain ⟨W, hW⟩ : ∃ W, W = w.alloc (.cells #[.string y0.s, .int .i64 y0.t, .int .i64 y0.d, .slice y0.p y0.n y0.c] 45) := ⟨_, rfl⟩
      have kW : Below w.heap.size w W := by rw [hW]; exact kA _
      have Ca : Cells W w.heap.size #[.string y0.s, .int .i64 y0.t, .int .i64 y0.d, .slice y0.p y0.n y0.c] := by rw [hW]; exact Cells.made _ _ _
      have CW := CZ (.cells #[.string y0.s, .int .i64 y0.t, .int .i64 y0.d, .slice y0.p y0.n y0.c] 45)
      rw [← hW] at CW
      replace hW : Hid (w.alloc (.cells #[.string y0.s, .int .i64 y0.t, .int .i64 y0.d, .slice y0.p y0.n y0.c] 45) = W) := hW.symm
      clear hleft e1 hs0 hsm hbig CZ kA hI0 ok0 oky hl0
      go_enter Try.func6, Try.ntmps6
      go_wp2_with (rw [hW.out])
      refine CW.mono ?_
      rintro e w1 ⟨rfl, b1⟩
      have C1 := Ca.on b1
      have l0 : w1.cell? ⟨w.heap.size, 0, none⟩ = some (.string y0.s) := (C1.2 0).1
      have l1 : w1.cell? ⟨w.heap.size, 1, none⟩ = some (.int .i64 y0.t) := (C1.2 1).1
      have l2 : w1.cell? ⟨w.heap.size, 2, none⟩ = some (.int .i64 y0.d) := (C1.2 2).1
      have l3 : w1.cell? ⟨w.heap.size, 3, none⟩ = some (.slice y0.p y0.n y0.c) := (C1.2 3).1
      go_wp2_with (fail)
      refine (C2 _).mono ?_
      rintro e w2 ⟨rfl, b2⟩
      go_wp2_with (fail)
      go_ret
      exact ⟨rfl, below_on kW (below_on b1 b2)⟩
    · have e1 : ∀ o, Calls Try.prog 33 #[.slice p0 n0 c0, .int .i64 1048576] (w.alloc o) fun e w' => e = .returned (.int .i64 (-1)) ∧ Below (w.alloc o).heap.size (w.alloc o) w' := fun o => by
        have := CZ o
        rw [if_neg (by omega)] at this
        exact this
      clear CZ hbig hI0 ok0 oky hl0 hs0 hsm
      go_enter Try.func6, Try.ntmps6
      go_wp2_with (fail)
      refine (e1 _).mono ?_
      rintro e w1 ⟨rfl, b1⟩
      go_wp2_with (fail)
      go_ret
      exact ⟨rfl, below_on (kA _) b1⟩

end Go.Proofs.Ytggbmpgpopenoaa
