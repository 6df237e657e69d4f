/-
  FnExactTake returns true for any list of items and any text, and writes nothing that was there; conditions: lengths that there can be.
-/
import Derived.Test.YtggbmpgpopenoaaQueueWalk
import Derived.Test.YtggbmpgpopenoaaImplTake
namespace Go.Proofs.Ytggbmpgpopenoaa
open Go.RowKit
set_option maxRecDepth 100000

theorem takeF_con (s : ByteArray) : ∀ {its its' : List ItA}, its'.map ItA.con = its.map ItA.con → (takeF s its').map (fun z => (z.1.con, z.2.map ItA.con)) = (takeF s its).map (fun z => (z.1.con, z.2.map ItA.con))
  | [], [], _ => rfl
  | [], _ :: _, h => by simp at h
  | _ :: _, [], h => by simp at h
  | x :: r, x' :: r', h => by
    rw [List.map_cons, List.map_cons, List.cons.injEq] at h
    have ih := takeF_con s h.2
    have hs : x'.s = x.s := congrArg Prod.fst h.1
    simp only [takeF, hs]
    by_cases e : x.s = s
    · simp [e, h.1, h.2]
    · simp only [e, if_false, Option.map_map]
      have e2 := congrArg (Option.map fun (z : Con × List Con) => (z.1, x.con :: z.2)) ih
      rw [Option.map_map, Option.map_map] at e2
      have f : ((fun (z : ItA × List ItA) => (z.1.con, z.2.map ItA.con)) ∘ fun (z : ItA × List ItA) => (z.1, x' :: z.2)) = ((fun (z : Con × List Con) => (z.1, x.con :: z.2)) ∘ fun (z : ItA × List ItA) => (z.1.con, z.2.map ItA.con)) := by funext z; simp [h.1]
      have f2 : ((fun (z : ItA × List ItA) => (z.1.con, z.2.map ItA.con)) ∘ fun (z : ItA × List ItA) => (z.1, x :: z.2)) = ((fun (z : Con × List Con) => (z.1, x.con :: z.2)) ∘ fun (z : ItA × List ItA) => (z.1.con, z.2.map ItA.con)) := by funext z; simp
      rw [f, f2]
      exact e2
theorem takeF_sub (s : ByteArray) : ∀ {its : List ItA} {x : ItA} {r : List ItA}, takeF s its = some (x, r) → x ∈ its ∧ r.Sublist its
  | [], _, _, h => by simp [takeF] at h
  | y :: t, x, r, h => by
    simp only [takeF] at h
    by_cases e : y.s = s
    · rw [if_pos e] at h
      simp only [Option.some.injEq, Prod.mk.injEq] at h
      rw [← h.1, ← h.2]
      exact ⟨by simp, List.sublist_cons_self _ _⟩
    · rw [if_neg e] at h
      cases hT : takeF s t with
      | none => rw [hT] at h; simp at h
      | some z =>
        rw [hT] at h
        simp only [Option.map_some, Option.some.injEq, Prod.mk.injEq] at h
        have ih := takeF_sub s (its := t) (x := z.1) (r := z.2) hT
        rw [← h.1, ← h.2]
        exact ⟨by simp [ih.1], ih.2.cons_cons _⟩
/-- What is taken is told by what the items say. -/
theorem take_con (s : ByteArray) {its its' : List ItA} (h : its'.map ItA.con = its.map ItA.con) : (takeX s its').con = (takeX s its).con ∧ (takeL s its').map ItA.con = (takeL s its).map ItA.con ∧ (takeF s its').isSome = (takeF s its).isSome := by
  have e := takeF_con s h
  unfold takeX takeL
  cases h1 : takeF s its with
  | none =>
    cases h2 : takeF s its' with
    | none => exact ⟨rfl, h, rfl⟩
    | some z => rw [h1, h2] at e; simp at e
  | some y =>
    cases h2 : takeF s its' with
    | none => rw [h1, h2] at e; simp at e
    | some z =>
      rw [h1, h2] at e
      simp only [Option.map_some, Option.some.injEq, Prod.mk.injEq] at e
      exact ⟨e.1, e.2, rfl⟩
theorem take_small (s : ByteArray) {its : List ItA} (h : ((its.map ItA.con).map conN).sum ≤ 1048576) : conN (takeX s its).con ≤ 1048576 ∧ (((takeL s its).map ItA.con).map conN).sum ≤ 1048576 ∧ (takeL s its).length ≤ its.length := by
  unfold takeX takeL
  cases h1 : takeF s its with
  | none => exact ⟨Nat.zero_le _, h, Nat.le_refl _⟩
  | some y =>
    have hs := takeF_sub s (x := y.1) (r := y.2) h1
    exact ⟨Nat.le_trans (mem_sum (List.mem_map.2 ⟨_, hs.1, rfl⟩)) h, Nat.le_trans (sub_sum ((hs.2.map _).map _)) h, hs.2.length_le⟩

set_option maxHeartbeats 8000000 in
theorem take_small_law (p0 : Option Addr) (n0 c0 : Nat) (its0 : List ItA) (s1 : ByteArray) (w : World) (hl0 : its0.length = n0) (hI0 : ItemsIn w p0 n0 its0) (ok0 : ∀ x ∈ its0, x.Ok w) (hsm : n0 + totI its0 ≤ 1048576) (hs1 : s1.size ≤ 1048576) :
    Calls Try.prog 8 #[.slice p0 n0 c0, .string s1] w fun e w' => e = .returned (.bool true) ∧ Below w.heap.size w w' := by
  have hn0 : n0 ≤ 1048576 := by omega
  have hsmall := small_of ok0 (by omega)
  have hfit := fit_of (its := its0) (by omega)
  have hS0 := con_sum ok0 (show totI its0 ≤ 1048576 by omega)
  have hbig : ∀ x ∈ its0, x.s.size ≤ 9223372036854775807 ∧ x.n ≤ 9223372036854775807 := fun x hx => ⟨(ok0 x hx).hs, (ok0 x hx).hn⟩
  have CZ := fun X => szItemS_any p0 n0 c0 its0 1048576 X (by omega) hl0
  obtain ⟨left, hleft⟩ : ∃ l : Int, l = (if (n0 : Int) + totI its0 ≤ 1048576 then (1048576 : Int) - n0 - totI its0 else -1) := ⟨_, rfl⟩
  rw [← hleft] at CZ
  have hl2 : ¬ left < 0 := by rw [hleft, if_pos (by omega)]; omega
  clear hleft
  obtain ⟨nT, F, XC, LC, hnT, hXC, hST, CS, CI⟩ : ∃ (nT : Nat) (F : Bool) (XC : Con) (LC : List Con), nT ≤ 1048576 ∧ conN XC ≤ 1048576 ∧ (LC.map conN).sum ≤ 1048576 ∧ (∀ (p : Option Addr) (c : Nat) (ia : List ItA) (X : World) (lo : Nat), Hid (ia.map ItA.con = its0.map ItA.con) → OwnItems X lo X.heap.size (.slice p n0 c) n0 ia → Calls Try.prog 15 #[.slice p n0 c, .string s1] X fun e w' => ∃ (y : ItA) (q : Option Addr) (cq : Nat) (its' : List ItA), e = .returned (.tuple #[.agg #[.string y.s, .int .i64 y.t, .int .i64 y.d, .slice y.p y.n y.c], .slice q nT cq, .bool F]) ∧ Taken w' X.heap.size w'.heap.size y (.slice q nT cq) nT its' ∧ Hid (y.con = XC) ∧ Hid (its'.map ItA.con = LC) ∧ Below X.heap.size X w') ∧ (∀ (p : Option Addr) (c : Nat) (ia : List ItA) (X : World) (lo : Nat), Hid (ia.map ItA.con = its0.map ItA.con) → OwnItems X lo X.heap.size (.slice p n0 c) n0 ia → Calls Try.prog 14 #[.slice p n0 c, .string s1] X fun e w' => ∃ (y : ItA) (q : Option Addr) (cq : Nat) (its' : List ItA), e = .returned (.tuple #[.agg #[.string y.s, .int .i64 y.t, .int .i64 y.d, .slice y.p y.n y.c], .slice q nT cq, .bool F]) ∧ Taken2 w' X.heap.size w'.heap.size y (.slice q nT cq) nT its' ∧ Hid (y.con = XC) ∧ Hid (its'.map ItA.con = LC) ∧ Below X.heap.size X w') := by
    have hT := take_small s1 hS0
    refine ⟨(takeL s1 its0).length, (takeF s1 its0).isSome, (takeX s1 its0).con, (takeL s1 its0).map ItA.con, by omega, hT.1, hT.2.1, ?_, ?_⟩
    · intro p c ia X lo e o
      obtain ⟨e1, e2, e3⟩ := take_con s1 e.out
      have hl := con_len e2
      have C := specTake_any p n0 c ia s1 X hn0 o.cap o.len o.items (o.lies (list_small e hS0)) (fits o e hS0)
      rw [hl, e3, e1, e2] at C
      exact C
    · intro p c ia X lo e o
      obtain ⟨e1, e2, e3⟩ := take_con s1 e.out
      have hl := con_len e2
      have C := implTake_any p n0 c ia s1 X hn0 hs1 o.len o.items (o.lies (list_small e hS0)) (fits o e hS0) (fun x hx => (small_con e.out hsmall x hx).1)
      rw [hl, e3, e1, e2] at C
      exact C
  have hFF : (F != F) = false := by simp
  go_enter Try.func8, Try.ntmps8
  go_wp2_with (fail)
  refine (CZ _ hI0 hbig (by omega)).mono ?_
  rintro e w1 ⟨rfl, b1⟩
  clear CZ hbig
  have k1 := b1
  have z1 := b1.size
  go_wp2_with (fail)
  refine (toItemS_own p0 n0 c0 its0 _ hn0 hl0 (itemsIn_on hI0 k1) (fun x hx => (ok0 x hx).on k1) hfit).mono ?_
  rintro e w2 ⟨pa, ca, ia, rfl, ra, ea, b2⟩
  have k2 := below_on k1 b2
  have z2 := b2.size
  clear b2
  go_wp2_with (fail)
  refine (CS pa ca ia _ _ ea ra).mono ?_
  rintro e w3 ⟨yw, pw, cw, iw, rfl, ⟨rw, ow, _, _⟩, xw, ew, b3⟩
  have k3 := below_on k2 b3
  have z3 := b3.size
  replace ra := ra.on b3
  clear b3
  have nw := one_small ow xw hXC
  clear ra
  obtain ⟨w4, hw4⟩ : ∃ X, X = w3.alloc (.cells #[.string yw.s, .int .i64 yw.t, .int .i64 yw.d, .slice yw.p yw.n yw.c] 26) := ⟨_, rfl⟩
  have b4 : Below w3.heap.size w3 w4 := by rw [hw4]; exact made_below _ _ (Below.refl _ _)
  have Cw : Cells w4 w3.heap.size #[.string yw.s, .int .i64 yw.t, .int .i64 yw.d, .slice yw.p yw.n yw.c] := by rw [hw4]; exact Cells.made _ _ _
  replace hw4 : Hid (w3.alloc (.cells #[.string yw.s, .int .i64 yw.t, .int .i64 yw.d, .slice yw.p yw.n yw.c] 26) = w4) := hw4.symm
  have k4 := below_on k3 b4
  have z4 := b4.size
  replace rw := rw.on b4
  replace ow := ow.on b4
  clear b4
  go_wp2_with (rw [hw4.out])
  clear hw4
  obtain ⟨Bw, hBw⟩ : ∃ B, B = w3.heap.size := ⟨_, rfl⟩
  have vw : w3.heap.size ≤ Bw ∧ Bw < w4.heap.size := by rw [hBw]; exact ⟨Nat.le_refl _, Cw.1⟩
  rw [← hBw] at Cw  ⊢
  clear hBw
  refine (toItemS_own p0 n0 c0 its0 _ hn0 hl0 (itemsIn_on hI0 k4) (fun x hx => (ok0 x hx).on k4) hfit).mono ?_
  rintro e w5 ⟨px, cx, ix, rfl, rx, ex, b5⟩
  have k5 := below_on k4 b5
  have z5 := b5.size
  replace rw := rw.on b5
  replace ow := ow.on b5
  replace Cw := Cw.on b5
  clear b5
  go_wp2_with (fail)
  refine (CI px cx ix _ _ ex rx).mono ?_
  rintro e w6 ⟨yg, pg, cg, ig, rfl, ⟨midg, rg, og, mg, ug⟩, xg, eg, b6⟩
  have k6 := below_on k5 b6
  have z6 := b6.size
  replace rw := rw.on b6
  replace rx := rx.on b6
  replace ow := ow.on b6
  replace Cw := Cw.on b6
  clear b6
  have ng := one_small og xg hXC
  obtain ⟨w7, hw7⟩ : ∃ X, X = w6.alloc (.cells #[.string yg.s, .int .i64 yg.t, .int .i64 yg.d, .slice yg.p yg.n yg.c] 26) := ⟨_, rfl⟩
  have b7 : Below w6.heap.size w6 w7 := by rw [hw7]; exact made_below _ _ (Below.refl _ _)
  have Cg : Cells w7 w6.heap.size #[.string yg.s, .int .i64 yg.t, .int .i64 yg.d, .slice yg.p yg.n yg.c] := by rw [hw7]; exact Cells.made _ _ _
  replace hw7 : Hid (w6.alloc (.cells #[.string yg.s, .int .i64 yg.t, .int .i64 yg.d, .slice yg.p yg.n yg.c] 26) = w7) := hw7.symm
  have k7 := below_on k6 b7
  have z7 := b7.size
  replace rw := rw.on b7
  replace rx := rx.on b7
  replace rg := rg.on b7
  replace ow := ow.on b7
  replace og := og.on b7
  replace Cw := Cw.on b7
  clear b7
  have lg_0 : w7.cell? ⟨w6.heap.size, 0, none⟩ = some (.string yg.s) := (Cg.2 0).1
  have lg_1 : w7.cell? ⟨w6.heap.size, 1, none⟩ = some (.int .i64 yg.t) := (Cg.2 1).1
  have lg_2 : w7.cell? ⟨w6.heap.size, 2, none⟩ = some (.int .i64 yg.d) := (Cg.2 2).1
  have lg_3 : w7.cell? ⟨w6.heap.size, 3, none⟩ = some (.slice yg.p yg.n yg.c) := (Cg.2 3).1
  have lw_0 : w7.cell? ⟨Bw, 0, none⟩ = some (.string yw.s) := (Cw.2 0).1
  have lw_1 : w7.cell? ⟨Bw, 1, none⟩ = some (.int .i64 yw.t) := (Cw.2 1).1
  have lw_2 : w7.cell? ⟨Bw, 2, none⟩ = some (.int .i64 yw.d) := (Cw.2 2).1
  have lw_3 : w7.cell? ⟨Bw, 3, none⟩ = some (.slice yw.p yw.n yw.c) := (Cw.2 3).1
  go_wp2_with (rw [hw7.out])
  clear hw7
  obtain ⟨Bg, hBg⟩ : ∃ B, B = w6.heap.size := ⟨_, rfl⟩
  have vg : w6.heap.size ≤ Bg ∧ Bg < w7.heap.size := by rw [hBg]; exact ⟨Nat.le_refl _, Cg.1⟩
  rw [← hBg] at Cg lg_0 lg_1 lg_2 lg_3 ⊢
  clear hBg
  clear lg_0 lg_1 lg_2 lg_3 lw_0 lw_1 lw_2 lw_3
  refine (eqItem_any yg.s yw.s yg.t yw.t yg.d yw.d yg.p yw.p yg.n yg.c yw.n yw.c yg.xs yw.xs _ (by omega) og.len ow.len og.bytes ow.bytes).mono ?_
  rintro e w8 ⟨rfl, b8⟩
  have k8 := below_on k7 b8
  have z8 := b8.size
  replace rw := rw.on b8
  replace rx := rx.on b8
  replace rg := rg.on b8
  replace ow := ow.on b8
  replace og := og.on b8
  replace Cw := Cw.on b8
  replace Cg := Cg.on b8
  clear b8
  rw [decide_eq_true (con_four xg xw)]
  go_wp2_with (fail)
  refine (eqItemS_any pg pw nT cg nT cw ig iw _ (by omega) rg.len rw.len rg.items rw.items (rg.lies (list_small eg hST)) (rw.lies (list_small ew hST))).mono ?_
  rintro e w9 ⟨rfl, b9⟩
  have k9 := below_on k8 b9
  have z9 := b9.size
  replace rw := rw.on b9
  replace rx := rx.on b9
  replace rg := rg.on b9
  replace ow := ow.on b9
  replace og := og.on b9
  replace Cw := Cw.on b9
  replace Cg := Cg.on b9
  clear b9
  rw [decide_eq_true (eg.out.trans ew.out.symm)]
  go_wp2_with (fail)
  refine (toItemS_own p0 n0 c0 its0 _ hn0 hl0 (itemsIn_on hI0 k9) (fun x hx => (ok0 x hx).on k9) hfit).mono ?_
  rintro e w10 ⟨pb, cb, ib, rfl, rb, eb, b10⟩
  have k10 := below_on k9 b10
  have z10 := b10.size
  replace rw := rw.on b10
  replace rx := rx.on b10
  replace rg := rg.on b10
  replace ow := ow.on b10
  replace og := og.on b10
  replace Cw := Cw.on b10
  replace Cg := Cg.on b10
  clear b10
  go_wp2_with (fail)
  refine (eqItemS_any px pb n0 cx n0 cb ix ib _ (by omega) rx.len rb.len rx.items rb.items (rx.lies (list_small ex hS0)) (rb.lies (list_small eb hS0))).mono ?_
  rintro e w11 ⟨rfl, b11⟩
  have k11 := below_on k10 b11
  have z11 := b11.size
  replace rw := rw.on b11
  replace rx := rx.on b11
  replace rg := rg.on b11
  replace rb := rb.on b11
  replace ow := ow.on b11
  replace og := og.on b11
  replace Cw := Cw.on b11
  replace Cg := Cg.on b11
  clear b11
  rw [decide_eq_true (ex.out.trans eb.out.symm)]
  clear rb
  have CM := fun X h => markItemS_own w4.heap.size w5.heap.size px n0 cx ix 1 X (by omega) (by omega) (mk_small (k := 1) rx ex hS0 (by omega) (by omega)) h
  have lKX := mk_small (k := 1) rx ex hS0 (by omega) (by omega)
  obtain ⟨KX, hKX⟩ : ∃ K, K = mkK 1 ix := ⟨_, rfl⟩
  rw [← hKX] at CM lKX
  have mKX : ¬ (KX : Int) < 0 := by omega
  have dKX : ((KX : Int) != (KX : Int)) = false := by simp
  replace hKX : Hid (KX = mkK 1 ix) := hKX
  go_wp2_with (fail)
  refine (CM _ rx).mono ?_
  rintro e w12 ⟨rfl, q12, W12⟩
  clear CM
  have k12 := W12.low k11 (by omega) (by omega)
  have z12 := W12.size
  replace rw := rw.past13 W12 (by omega)
  replace rg := rg.past13 W12 (by omega)
  replace ow := ow.past13 W12 (by omega)
  replace og := og.past13 W12 (by omega)
  replace Cw := Cw.past13 W12 (by omega)
  replace Cg := Cg.past13 W12 (by omega)
  clear rx W12
  have rx := q12
  clear q12
  have lg_0 : w12.cell? ⟨Bg, 0, none⟩ = some (.string yg.s) := (Cg.2 0).1
  have lg_1 : w12.cell? ⟨Bg, 1, none⟩ = some (.int .i64 yg.t) := (Cg.2 1).1
  have lg_2 : w12.cell? ⟨Bg, 2, none⟩ = some (.int .i64 yg.d) := (Cg.2 2).1
  have lg_3 : w12.cell? ⟨Bg, 3, none⟩ = some (.slice yg.p yg.n yg.c) := (Cg.2 3).1
  have lw_0 : w12.cell? ⟨Bw, 0, none⟩ = some (.string yw.s) := (Cw.2 0).1
  have lw_1 : w12.cell? ⟨Bw, 1, none⟩ = some (.int .i64 yw.t) := (Cw.2 1).1
  have lw_2 : w12.cell? ⟨Bw, 2, none⟩ = some (.int .i64 yw.d) := (Cw.2 2).1
  have lw_3 : w12.cell? ⟨Bw, 3, none⟩ = some (.slice yw.p yw.n yw.c) := (Cw.2 3).1
  go_wp2_with (fail)
  clear lg_0 lg_1 lg_2 lg_3 lw_0 lw_1 lw_2 lw_3
  refine (eqItem_any yg.s yw.s yg.t yw.t yg.d yw.d yg.p yw.p yg.n yg.c yw.n yw.c yg.xs yw.xs _ (by omega) og.len ow.len og.bytes ow.bytes).mono ?_
  rintro e w13 ⟨rfl, b13⟩
  have k13 := below_on k12 b13
  have z13 := b13.size
  replace rw := rw.on b13
  replace rx := rx.on b13
  replace rg := rg.on b13
  replace ow := ow.on b13
  replace og := og.on b13
  replace Cw := Cw.on b13
  replace Cg := Cg.on b13
  clear b13
  rw [decide_eq_true (con_four xg xw)]
  go_wp2_with (fail)
  refine (eqItemS_any pg pw nT cg nT cw ig iw _ (by omega) rg.len rw.len rg.items rw.items (rg.lies (list_small eg hST)) (rw.lies (list_small ew hST))).mono ?_
  rintro e w14 ⟨rfl, b14⟩
  have k14 := below_on k13 b14
  have z14 := b14.size
  replace rw := rw.on b14
  replace rx := rx.on b14
  replace rg := rg.on b14
  replace ow := ow.on b14
  replace og := og.on b14
  replace Cw := Cw.on b14
  replace Cg := Cg.on b14
  clear b14
  rw [decide_eq_true (eg.out.trans ew.out.symm)]
  clear rx
  have lg_0 : w14.cell? ⟨Bg, 0, none⟩ = some (.string yg.s) := (Cg.2 0).1
  have lg_1 : w14.cell? ⟨Bg, 1, none⟩ = some (.int .i64 yg.t) := (Cg.2 1).1
  have lg_2 : w14.cell? ⟨Bg, 2, none⟩ = some (.int .i64 yg.d) := (Cg.2 2).1
  have lg_3 : w14.cell? ⟨Bg, 3, none⟩ = some (.slice yg.p yg.n yg.c) := (Cg.2 3).1
  go_wp2_with (fail)
  clear lg_0 lg_1 lg_2 lg_3
  refine (markItem_own _ midg yg.s yg.t yg.d yg.p yg.n yg.c yg.xs 1 _ (by omega) (by omega) (by omega) og).mono ?_
  rintro e w15 ⟨rfl, q15, W15, _⟩
  have k15 := W15.low k14 (by omega) (by omega)
  have z15 := W15.size
  replace rw := rw.past13 W15 (by omega)
  replace rg := rg.past13 W15 (by omega)
  replace ow := ow.past13 W15 (by omega)
  replace Cw := Cw.past13 W15 (by omega)
  replace Cg := Cg.past13 W15 (by omega)
  clear og W15
  have og := q15
  clear q15
  obtain ⟨K1, hK1⟩ : ∃ K1, K1 = 1 + yg.n := ⟨_, rfl⟩
  have eK1 : (1 : Int) + (yg.n : Int) = (K1 : Int) := by omega
  have bK1 : 0 < K1 ∧ K1 ≤ 1048577 := by omega
  have mK1 : ¬ (K1 : Int) < 0 := by omega
  clear hK1
  rw [eK1]
  have CM := fun X h => markItemS_own midg w6.heap.size pg nT cg ig K1 X (by omega) (by omega) (mk_small (k := K1) rg eg hST (by omega) (by omega)) h
  have lM := mk_small (k := K1) rg eg hST (by omega) (by omega)
  obtain ⟨M, hM⟩ : ∃ K, K = mkK K1 ig := ⟨_, rfl⟩
  rw [← hM] at CM lM
  have mM : ¬ (M : Int) < 0 := by omega
  have dM : ((M : Int) != (M : Int)) = false := by simp
  replace hM : Hid (M = mkK K1 ig) := hM
  go_wp2_with (fail)
  refine (CM _ rg).mono ?_
  rintro e w16 ⟨rfl, q16, W16⟩
  clear CM
  have k16 := W16.low k15 (by omega) (by omega)
  have z16 := W16.size
  replace rw := rw.past13 W16 (by omega)
  replace ow := ow.past13 W16 (by omega)
  replace og := og.past13 W16 (by omega)
  replace Cw := Cw.past13 W16 (by omega)
  replace Cg := Cg.past13 W16 (by omega)
  clear rg W16
  have rg := q16
  clear q16
  have lg_0 : w16.cell? ⟨Bg, 0, none⟩ = some (.string yg.s) := (Cg.2 0).1
  have lg_1 : w16.cell? ⟨Bg, 1, none⟩ = some (.int .i64 yg.t) := (Cg.2 1).1
  have lg_2 : w16.cell? ⟨Bg, 2, none⟩ = some (.int .i64 yg.d) := (Cg.2 2).1
  have lg_3 : w16.cell? ⟨Bg, 3, none⟩ = some (.slice yg.p yg.n yg.c) := (Cg.2 3).1
  go_wp2_with (fail)
  clear lg_0 lg_1 lg_2 lg_3
  refine (heldItem_any yg.s yg.t yg.d yg.p yg.n yg.c 1 _ (by omega) (by omega) (by omega) og.bytes).mono ?_
  rintro e w17 ⟨rfl, b17⟩
  have k17 := below_on k16 b17
  have z17 := b17.size
  replace rw := rw.on b17
  replace rg := rg.on b17
  replace ow := ow.on b17
  replace og := og.on b17
  replace Cw := Cw.on b17
  replace Cg := Cg.on b17
  clear b17
  rw [eK1]
  have CH := fun X h1 h2 => heldItemS_any pg nT cg ig K1 X (by omega) (by simpa [mkI_length] using rg.len) (by omega) (by rw [← hM.out]; exact lM) h1 h2
  rw [← hM.out] at CH
  go_wp2_with (fail)
  refine (CH _ rg.items (mkI_bytes rg)).mono ?_
  rintro e w18 ⟨rfl, b18⟩
  have k18 := below_on k17 b18
  have z18 := b18.size
  replace rw := rw.on b18
  replace rg := rg.on b18
  replace ow := ow.on b18
  replace og := og.on b18
  replace Cw := Cw.on b18
  replace Cg := Cg.on b18
  clear b18
  clear CH
  go_wp2_with (fail)
  refine (toItemS_own p0 n0 c0 its0 _ hn0 hl0 (itemsIn_on hI0 k18) (fun x hx => (ok0 x hx).on k18) hfit).mono ?_
  rintro e w19 ⟨pc, cc, ic, rfl, rc, ec, b19⟩
  have k19 := below_on k18 b19
  have z19 := b19.size
  replace rw := rw.on b19
  replace rg := rg.on b19
  replace ow := ow.on b19
  replace og := og.on b19
  replace Cw := Cw.on b19
  replace Cg := Cg.on b19
  clear b19
  go_wp2_with (fail)
  refine (CI pc cc ic _ _ ec rc).mono ?_
  rintro e w20 ⟨yh, ph, ch, ih, rfl, ⟨midh, rh, oh, mh, uh⟩, xh, eh, b20⟩
  have k20 := below_on k19 b20
  have z20 := b20.size
  replace rw := rw.on b20
  replace rg := rg.on b20
  replace rc := rc.on b20
  replace ow := ow.on b20
  replace og := og.on b20
  replace Cw := Cw.on b20
  replace Cg := Cg.on b20
  clear b20
  have nh := one_small oh xh hXC
  clear rc
  obtain ⟨w21, hw21⟩ : ∃ X, X = w20.alloc (.cells #[.string yh.s, .int .i64 yh.t, .int .i64 yh.d, .slice yh.p yh.n yh.c] 26) := ⟨_, rfl⟩
  have b21 : Below w20.heap.size w20 w21 := by rw [hw21]; exact made_below _ _ (Below.refl _ _)
  have Ch : Cells w21 w20.heap.size #[.string yh.s, .int .i64 yh.t, .int .i64 yh.d, .slice yh.p yh.n yh.c] := by rw [hw21]; exact Cells.made _ _ _
  replace hw21 : Hid (w20.alloc (.cells #[.string yh.s, .int .i64 yh.t, .int .i64 yh.d, .slice yh.p yh.n yh.c] 26) = w21) := hw21.symm
  have k21 := below_on k20 b21
  have z21 := b21.size
  replace rw := rw.on b21
  replace rg := rg.on b21
  replace rh := rh.on b21
  replace ow := ow.on b21
  replace og := og.on b21
  replace oh := oh.on b21
  replace Cw := Cw.on b21
  replace Cg := Cg.on b21
  clear b21
  have lh_0 : w21.cell? ⟨w20.heap.size, 0, none⟩ = some (.string yh.s) := (Ch.2 0).1
  have lh_1 : w21.cell? ⟨w20.heap.size, 1, none⟩ = some (.int .i64 yh.t) := (Ch.2 1).1
  have lh_2 : w21.cell? ⟨w20.heap.size, 2, none⟩ = some (.int .i64 yh.d) := (Ch.2 2).1
  have lh_3 : w21.cell? ⟨w20.heap.size, 3, none⟩ = some (.slice yh.p yh.n yh.c) := (Ch.2 3).1
  have lw_0 : w21.cell? ⟨Bw, 0, none⟩ = some (.string yw.s) := (Cw.2 0).1
  have lw_1 : w21.cell? ⟨Bw, 1, none⟩ = some (.int .i64 yw.t) := (Cw.2 1).1
  have lw_2 : w21.cell? ⟨Bw, 2, none⟩ = some (.int .i64 yw.d) := (Cw.2 2).1
  have lw_3 : w21.cell? ⟨Bw, 3, none⟩ = some (.slice yw.p yw.n yw.c) := (Cw.2 3).1
  go_wp2_with (rw [hw21.out])
  clear hw21
  obtain ⟨Bh, hBh⟩ : ∃ B, B = w20.heap.size := ⟨_, rfl⟩
  have vh : w20.heap.size ≤ Bh ∧ Bh < w21.heap.size := by rw [hBh]; exact ⟨Nat.le_refl _, Ch.1⟩
  rw [← hBh] at Ch lh_0 lh_1 lh_2 lh_3 ⊢
  clear hBh
  clear lh_0 lh_1 lh_2 lh_3 lw_0 lw_1 lw_2 lw_3
  refine (eqItem_any yh.s yw.s yh.t yw.t yh.d yw.d yh.p yw.p yh.n yh.c yw.n yw.c yh.xs yw.xs _ (by omega) oh.len ow.len oh.bytes ow.bytes).mono ?_
  rintro e w22 ⟨rfl, b22⟩
  have k22 := below_on k21 b22
  have z22 := b22.size
  replace rw := rw.on b22
  replace rg := rg.on b22
  replace rh := rh.on b22
  replace ow := ow.on b22
  replace og := og.on b22
  replace oh := oh.on b22
  replace Cw := Cw.on b22
  replace Cg := Cg.on b22
  replace Ch := Ch.on b22
  clear b22
  rw [decide_eq_true (con_four xh xw)]
  go_wp2_with (fail)
  refine (eqItemS_any ph pw nT ch nT cw ih iw _ (by omega) rh.len rw.len rh.items rw.items (rh.lies (list_small eh hST)) (rw.lies (list_small ew hST))).mono ?_
  rintro e w23 ⟨rfl, b23⟩
  have k23 := below_on k22 b23
  have z23 := b23.size
  replace rw := rw.on b23
  replace rg := rg.on b23
  replace rh := rh.on b23
  replace ow := ow.on b23
  replace og := og.on b23
  replace oh := oh.on b23
  replace Cw := Cw.on b23
  replace Cg := Cg.on b23
  replace Ch := Ch.on b23
  clear b23
  rw [decide_eq_true (eh.out.trans ew.out.symm)]
  have lg_0 : w23.cell? ⟨Bg, 0, none⟩ = some (.string yg.s) := (Cg.2 0).1
  have lg_1 : w23.cell? ⟨Bg, 1, none⟩ = some (.int .i64 yg.t) := (Cg.2 1).1
  have lg_2 : w23.cell? ⟨Bg, 2, none⟩ = some (.int .i64 yg.d) := (Cg.2 2).1
  have lg_3 : w23.cell? ⟨Bg, 3, none⟩ = some (.slice yg.p yg.n yg.c) := (Cg.2 3).1
  go_wp2_with (fail)
  clear lg_0 lg_1 lg_2 lg_3
  refine (heldItem_any yg.s yg.t yg.d yg.p yg.n yg.c 1 _ (by omega) (by omega) (by omega) og.bytes).mono ?_
  rintro e w24 ⟨rfl, b24⟩
  have k24 := below_on k23 b24
  have z24 := b24.size
  replace rw := rw.on b24
  replace rg := rg.on b24
  replace rh := rh.on b24
  replace ow := ow.on b24
  replace og := og.on b24
  replace oh := oh.on b24
  replace Cw := Cw.on b24
  replace Cg := Cg.on b24
  replace Ch := Ch.on b24
  clear b24
  rw [eK1]
  have CH := fun X h1 h2 => heldItemS_any pg nT cg ig K1 X (by omega) (by simpa [mkI_length] using rg.len) (by omega) (by rw [← hM.out]; exact lM) h1 h2
  rw [← hM.out] at CH
  go_wp2_with (fail)
  refine (CH _ rg.items (mkI_bytes rg)).mono ?_
  rintro e w25 ⟨rfl, b25⟩
  have k25 := below_on k24 b25
  have z25 := b25.size
  replace rw := rw.on b25
  replace rg := rg.on b25
  replace rh := rh.on b25
  replace ow := ow.on b25
  replace og := og.on b25
  replace oh := oh.on b25
  replace Cw := Cw.on b25
  replace Cg := Cg.on b25
  replace Ch := Ch.on b25
  clear b25
  clear CH
  go_wp2_with (fail)
  go_ret
  exact ⟨rfl, k25⟩

set_option maxHeartbeats 8000000 in
theorem take_law (p0 : Option Addr) (n0 c0 : Nat) (its0 : List ItA) (s1 : ByteArray) (w : World) (hl0 : its0.length = n0) (hI0 : ItemsIn w p0 n0 its0) (ok0 : ∀ x ∈ its0, x.Ok w) (hn0 : n0 ≤ 9223372036854775807) (hs1 : s1.size ≤ 9223372036854775807) :
    Calls Try.prog 8 #[.slice p0 n0 c0, .string s1] w fun e w' => e = .returned (.bool true) ∧ Below w.heap.size w w' := by
  by_cases hrt : (s1.size : Int) ≤ 1048576
  · by_cases hsm : n0 + totI its0 ≤ 1048576
    · exact take_small_law p0 n0 c0 its0 s1 w hl0 hI0 ok0 hsm (by omega)
    · have hbig : ∀ x ∈ its0, x.s.size ≤ 9223372036854775807 ∧ x.n ≤ 9223372036854775807 := fun x hx => ⟨(ok0 x hx).hs, (ok0 x hx).hn⟩
      have CZ := szItemS_any p0 n0 c0 its0 1048576 w hn0 hl0 hI0 hbig (by omega)
      rw [if_neg (by omega)] at CZ
      clear hI0 ok0 hbig hl0 hsm
      go_enter Try.func8, Try.ntmps8
      go_wp2_with (fail)
      refine CZ.mono ?_
      rintro e w1 ⟨rfl, b1⟩
      go_wp2_with (fail)
      go_ret
      exact ⟨rfl, b1⟩
  · clear hI0 ok0 hl0
    go_enter Try.func8, Try.ntmps8
    go_wp2_with (fail)
    go_ret
    exact ⟨rfl, Below.refl _ _⟩

end Go.Proofs.Ytggbmpgpopenoaa
