/-
  FnExactDue returns true for any list of items and any number, and writes nothing that was there; conditions: lengths that there can be.
-/
import Derived.Test.YtggbmpgpopenoaaQueueWalk
import Derived.Test.YtggbmpgpopenoaaImplDue
namespace Go.Proofs.Ytggbmpgpopenoaa
open Go.RowKit
set_option maxRecDepth 100000

theorem due_con (now : Int) {its its' : List ItA} (h : its'.map ItA.con = its.map ItA.con) : (dueL now its').map ItA.con = (dueL now its).map ItA.con := by
  have f : ∀ l : List ItA, (dueL now l).map ItA.con = (l.map ItA.con).filter (fun (c : Con) => decide (now ≤ c.2.2.1)) := fun l => by
    rw [dueL, List.filter_map]; rfl
  rw [f, f, h]

set_option maxHeartbeats 8000000 in
theorem due_small_law (p0 : Option Addr) (n0 c0 : Nat) (its0 : List ItA) (i1 : Int) (w : World) (hl0 : its0.length = n0) (hI0 : ItemsIn w p0 n0 its0) (ok0 : ∀ x ∈ its0, x.Ok w) (hsm : n0 + totI its0 ≤ 1048576) :
    Calls Try.prog 7 #[.slice p0 n0 c0, .int .i64 i1] w fun e w' => e = .returned (.bool true) ∧ Below w.heap.size w w' := by
  have hn0 : n0 ≤ 1048576 := by omega
  have hsmall := small_of ok0 (by omega)
  have hfit := fit_of (its := its0) (by omega)
  have hS0 := con_sum ok0 (show totI its0 ≤ 1048576 by omega)
  have hbig : ∀ x ∈ its0, x.s.size ≤ 9223372036854775807 ∧ x.n ≤ 9223372036854775807 := fun x hx => ⟨(ok0 x hx).hs, (ok0 x hx).hn⟩
  have CZ := fun X => szItemS_any p0 n0 c0 its0 1048576 X (by omega) hl0
  obtain ⟨left, hleft⟩ : ∃ l : Int, l = (if (n0 : Int) + totI its0 ≤ 1048576 then (1048576 : Int) - n0 - totI its0 else -1) := ⟨_, rfl⟩
  rw [← hleft] at CZ
  have hl2 : ¬ left < 0 := by rw [hleft, if_pos (by omega)]; omega
  clear hleft
  obtain ⟨nT, LC, hnT, hST, CS, CI⟩ : ∃ (nT : Nat) (LC : List Con), nT ≤ 1048576 ∧ (LC.map conN).sum ≤ 1048576 ∧ (∀ (p : Option Addr) (c : Nat) (ia : List ItA) (X : World) (lo : Nat), Hid (ia.map ItA.con = its0.map ItA.con) → OwnItems X lo X.heap.size (.slice p n0 c) n0 ia → Calls Try.prog 23 #[.slice p n0 c, .int .i64 i1] X fun e w' => ∃ (q : Option Addr) (cq : Nat) (its' : List ItA), e = .returned (.slice q nT cq) ∧ OwnItems w' X.heap.size w'.heap.size (.slice q nT cq) nT its' ∧ Hid (its'.map ItA.con = LC) ∧ Below X.heap.size X w') ∧ (∀ (p : Option Addr) (c : Nat) (ia : List ItA) (X : World) (lo : Nat), Hid (ia.map ItA.con = its0.map ItA.con) → OwnItems X lo X.heap.size (.slice p n0 c) n0 ia → Calls Try.prog 17 #[.slice p n0 c, .int .i64 i1] X fun e w' => ∃ (q : Option Addr) (cq : Nat) (its' : List ItA), e = .returned (.slice q nT cq) ∧ OwnItems w' X.heap.size w'.heap.size (.slice q nT cq) nT its' ∧ Hid (its'.map ItA.con = LC) ∧ Below X.heap.size X w') := by
    refine ⟨(dueL i1 its0).length, (dueL i1 its0).map ItA.con, Nat.le_trans (List.length_filter_le _ _) (by omega), Nat.le_trans (sub_sum ((List.filter_sublist.map _).map _)) hS0, ?_, ?_⟩
    · intro p c ia X lo e o
      have e2 := due_con i1 e.out
      have hl := con_len e2
      have C := specDue_any p n0 c ia i1 X hn0 o.len o.items (o.lies (list_small e hS0)) (fits o e hS0)
      rw [hl, e2] at C
      exact C
    · intro p c ia X lo e o
      have e2 := due_con i1 e.out
      have hl := con_len e2
      have C := implDue_any p n0 c ia i1 X hn0 o.len o.items (o.lies (list_small e hS0)) (fits o e hS0) (fun x hx => (small_con e.out hsmall x hx).1)
      rw [hl, e2] at C
      exact C
  go_enter Try.func7, Try.ntmps7
  go_wp2_with (fail)
  refine (CZ _ hI0 hbig (by omega)).mono ?_
  rintro e w1 ⟨rfl, b1⟩
  clear CZ hbig
  have k1 := b1
  have z1 := b1.size
  go_wp2_with (fail)
  refine (toItemS_own p0 n0 c0 its0 _ hn0 hl0 (itemsIn_on hI0 k1) (fun x hx => (ok0 x hx).on k1) hfit).mono ?_
  rintro e w2 ⟨pa, ca, ia, rfl, ra, ea, b2⟩
  have k2 := below_on k1 b2
  have z2 := b2.size
  clear b2
  go_wp2_with (fail)
  refine (CS pa ca ia _ _ ea ra).mono ?_
  rintro e w3 ⟨pw, cw, iw, rfl, rw, ew, b3⟩
  have k3 := below_on k2 b3
  have z3 := b3.size
  replace ra := ra.on b3
  clear b3
  clear ra
  go_wp2_with (fail)
  refine (toItemS_own p0 n0 c0 its0 _ hn0 hl0 (itemsIn_on hI0 k3) (fun x hx => (ok0 x hx).on k3) hfit).mono ?_
  rintro e w4 ⟨px, cx, ix, rfl, rx, ex, b4⟩
  have k4 := below_on k3 b4
  have z4 := b4.size
  replace rw := rw.on b4
  clear b4
  go_wp2_with (fail)
  refine (CI px cx ix _ _ ex rx).mono ?_
  rintro e w5 ⟨pg, cg, ig, rfl, rg, eg, b5⟩
  have k5 := below_on k4 b5
  have z5 := b5.size
  replace rw := rw.on b5
  replace rx := rx.on b5
  clear b5
  go_wp2_with (fail)
  refine (eqItemS_any pg pw nT cg nT cw ig iw _ (by omega) rg.len rw.len rg.items rw.items (rg.lies (list_small eg hST)) (rw.lies (list_small ew hST))).mono ?_
  rintro e w6 ⟨rfl, b6⟩
  have k6 := below_on k5 b6
  have z6 := b6.size
  replace rw := rw.on b6
  replace rx := rx.on b6
  replace rg := rg.on b6
  clear b6
  rw [decide_eq_true (eg.out.trans ew.out.symm)]
  go_wp2_with (fail)
  refine (toItemS_own p0 n0 c0 its0 _ hn0 hl0 (itemsIn_on hI0 k6) (fun x hx => (ok0 x hx).on k6) hfit).mono ?_
  rintro e w7 ⟨pb, cb, ib, rfl, rb, eb, b7⟩
  have k7 := below_on k6 b7
  have z7 := b7.size
  replace rw := rw.on b7
  replace rx := rx.on b7
  replace rg := rg.on b7
  clear b7
  go_wp2_with (fail)
  refine (eqItemS_any px pb n0 cx n0 cb ix ib _ (by omega) rx.len rb.len rx.items rb.items (rx.lies (list_small ex hS0)) (rb.lies (list_small eb hS0))).mono ?_
  rintro e w8 ⟨rfl, b8⟩
  have k8 := below_on k7 b8
  have z8 := b8.size
  replace rw := rw.on b8
  replace rx := rx.on b8
  replace rg := rg.on b8
  replace rb := rb.on b8
  clear b8
  rw [decide_eq_true (ex.out.trans eb.out.symm)]
  clear rb
  have CM := fun X h => markItemS_own w3.heap.size w4.heap.size px n0 cx ix 1 X (by omega) (by omega) (mk_small (k := 1) rx ex hS0 (by omega) (by omega)) h
  have lKX := mk_small (k := 1) rx ex hS0 (by omega) (by omega)
  obtain ⟨KX, hKX⟩ : ∃ K, K = mkK 1 ix := ⟨_, rfl⟩
  rw [← hKX] at CM lKX
  have mKX : ¬ (KX : Int) < 0 := by omega
  have dKX : ((KX : Int) != (KX : Int)) = false := by simp
  replace hKX : Hid (KX = mkK 1 ix) := hKX
  go_wp2_with (fail)
  refine (CM _ rx).mono ?_
  rintro e w9 ⟨rfl, q9, W9⟩
  clear CM
  have k9 := W9.low k8 (by omega) (by omega)
  have z9 := W9.size
  replace rw := rw.past13 W9 (by omega)
  replace rg := rg.past13 W9 (by omega)
  clear rx W9
  have rx := q9
  clear q9
  go_wp2_with (fail)
  refine (eqItemS_any pg pw nT cg nT cw ig iw _ (by omega) rg.len rw.len rg.items rw.items (rg.lies (list_small eg hST)) (rw.lies (list_small ew hST))).mono ?_
  rintro e w10 ⟨rfl, b10⟩
  have k10 := below_on k9 b10
  have z10 := b10.size
  replace rw := rw.on b10
  replace rx := rx.on b10
  replace rg := rg.on b10
  clear b10
  rw [decide_eq_true (eg.out.trans ew.out.symm)]
  clear rx
  have CM := fun X h => markItemS_own w4.heap.size w5.heap.size pg nT cg ig 1 X (by omega) (by omega) (mk_small (k := 1) rg eg hST (by omega) (by omega)) h
  have lM := mk_small (k := 1) rg eg hST (by omega) (by omega)
  obtain ⟨M, hM⟩ : ∃ K, K = mkK 1 ig := ⟨_, rfl⟩
  rw [← hM] at CM lM
  have mM : ¬ (M : Int) < 0 := by omega
  have dM : ((M : Int) != (M : Int)) = false := by simp
  replace hM : Hid (M = mkK 1 ig) := hM
  go_wp2_with (fail)
  refine (CM _ rg).mono ?_
  rintro e w11 ⟨rfl, q11, W11⟩
  clear CM
  have k11 := W11.low k10 (by omega) (by omega)
  have z11 := W11.size
  replace rw := rw.past13 W11 (by omega)
  clear rg W11
  have rg := q11
  clear q11
  have CH := fun X h1 h2 => heldItemS_any pg nT cg ig 1 X (by omega) (by simpa [mkI_length] using rg.len) (by omega) (by rw [← hM.out]; exact lM) h1 h2
  rw [← hM.out] at CH
  go_wp2_with (fail)
  refine (CH _ rg.items (mkI_bytes rg)).mono ?_
  rintro e w12 ⟨rfl, b12⟩
  have k12 := below_on k11 b12
  have z12 := b12.size
  replace rw := rw.on b12
  replace rg := rg.on b12
  clear b12
  clear CH
  go_wp2_with (fail)
  refine (toItemS_own p0 n0 c0 its0 _ hn0 hl0 (itemsIn_on hI0 k12) (fun x hx => (ok0 x hx).on k12) hfit).mono ?_
  rintro e w13 ⟨pc, cc, ic, rfl, rc, ec, b13⟩
  have k13 := below_on k12 b13
  have z13 := b13.size
  replace rw := rw.on b13
  replace rg := rg.on b13
  clear b13
  go_wp2_with (fail)
  refine (CI pc cc ic _ _ ec rc).mono ?_
  rintro e w14 ⟨ph, ch, ih, rfl, rh, eh, b14⟩
  have k14 := below_on k13 b14
  have z14 := b14.size
  replace rw := rw.on b14
  replace rg := rg.on b14
  replace rc := rc.on b14
  clear b14
  clear rc
  go_wp2_with (fail)
  refine (eqItemS_any ph pw nT ch nT cw ih iw _ (by omega) rh.len rw.len rh.items rw.items (rh.lies (list_small eh hST)) (rw.lies (list_small ew hST))).mono ?_
  rintro e w15 ⟨rfl, b15⟩
  have k15 := below_on k14 b15
  have z15 := b15.size
  replace rw := rw.on b15
  replace rg := rg.on b15
  replace rh := rh.on b15
  clear b15
  rw [decide_eq_true (eh.out.trans ew.out.symm)]
  have CH := fun X h1 h2 => heldItemS_any pg nT cg ig 1 X (by omega) (by simpa [mkI_length] using rg.len) (by omega) (by rw [← hM.out]; exact lM) h1 h2
  rw [← hM.out] at CH
  go_wp2_with (fail)
  refine (CH _ rg.items (mkI_bytes rg)).mono ?_
  rintro e w16 ⟨rfl, b16⟩
  have k16 := below_on k15 b16
  have z16 := b16.size
  replace rw := rw.on b16
  replace rg := rg.on b16
  replace rh := rh.on b16
  clear b16
  clear CH
  go_wp2_with (fail)
  go_ret
  exact ⟨rfl, k16⟩

set_option maxHeartbeats 8000000 in
theorem due_law (p0 : Option Addr) (n0 c0 : Nat) (its0 : List ItA) (i1 : Int) (w : World) (hl0 : its0.length = n0) (hI0 : ItemsIn w p0 n0 its0) (ok0 : ∀ x ∈ its0, x.Ok w) (hn0 : n0 ≤ 9223372036854775807) :
    Calls Try.prog 7 #[.slice p0 n0 c0, .int .i64 i1] w fun e w' => e = .returned (.bool true) ∧ Below w.heap.size w w' := by
  by_cases hsm : n0 + totI its0 ≤ 1048576
  · exact due_small_law p0 n0 c0 its0 i1 w hl0 hI0 ok0 hsm
  · have hbig : ∀ x ∈ its0, x.s.size ≤ 9223372036854775807 ∧ x.n ≤ 9223372036854775807 := fun x hx => ⟨(ok0 x hx).hs, (ok0 x hx).hn⟩
    have CZ := szItemS_any p0 n0 c0 its0 1048576 w hn0 hl0 hI0 hbig (by omega)
    rw [if_neg (by omega)] at CZ
    clear hI0 ok0 hbig hl0 hsm
    go_enter Try.func7, Try.ntmps7
    go_wp2_with (fail)
    refine CZ.mono ?_
    rintro e w1 ⟨rfl, b1⟩
    go_wp2_with (fail)
    go_ret
    exact ⟨rfl, b1⟩

end Go.Proofs.Ytggbmpgpopenoaa
