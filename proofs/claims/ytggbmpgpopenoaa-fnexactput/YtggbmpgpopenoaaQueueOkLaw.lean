/-
  FnExactQueueOk returns true for any list of items, and writes nothing that was there; conditions: lengths that there can be.
-/
import Derived.Test.YtggbmpgpopenoaaItemsLaw
import Derived.Test.YtggbmpgpopenoaaImplQueueOk
namespace Go.Proofs.Ytggbmpgpopenoaa
open Go.RowKit
set_option maxRecDepth 100000

theorem cntI_con (s : ByteArray) {its its' : List ItA} (e : its'.map ItA.con = its.map ItA.con) : cntI s its' = cntI s its := by
  have f : ∀ l : List ItA, cntI s l = (l.map ItA.con).countP (fun c => decide (c.1 = s)) := fun l => by
    rw [cntI, List.countP_map]; rfl
  rw [f, f, e]
theorem getD_con {its its' : List ItA} (e : its'.map ItA.con = its.map ItA.con) (i : Nat) : (its'.getD i default).con = (its.getD i default).con := by
  have := congrArg (fun l => l.getD i (default : ItA).con) e
  simpa [List.getD_eq_getElem?_getD, List.getElem?_map, Option.getD_map] using this
theorem OwnItems.lens {w : World} {lo hi : Nat} {v : Value} {n : Nat} {its : List ItA} (h : OwnItems w lo hi v n its) : ∀ x ∈ its, x.xs.length = x.n := fun x hx => (h.bytes x hx).len
theorem qB_con {its its' : List ItA} (e : its'.map ItA.con = its.map ItA.con) (h : ∀ x ∈ its, x.xs.length = x.n) (h' : ∀ x ∈ its', x.xs.length = x.n) : qB its' = qB its := by
  have hl := con_len e
  have each : ∀ i, i < its.length → (okAt its' i ↔ okAt its i) := fun i hi => by
    have e1 := getD_con e i
    have n1 := h _ (getD_mem hi)
    have n2 := h' _ (getD_mem (l := its') (k := i) (by omega))
    simp only [ItA.con, Prod.mk.injEq] at e1
    have en : (its'.getD i default).n = (its.getD i default).n := by rw [← n1, ← n2, e1.2.2.2]
    unfold okAt
    rw [e1.1, e1.2.1, e1.2.2.1, en, cntI_con _ e]
    refine and_congr_right fun _ => and_congr_right fun _ => forall_congr' fun k => forall_congr' fun _ => ?_
    have e2 := getD_con e k
    simp only [ItA.con, Prod.mk.injEq] at e2
    unfold clash
    rw [e1.1, e1.2.1, e2.1, e2.2.1]
  have hq : QOk its' ↔ QOk its := by
    unfold QOk
    rw [hl]
    exact and_congr_right fun _ => forall_congr' fun i => forall_congr' fun hi => each i hi
  by_cases q : QOk its
  · rw [qB_true q, qB_true (hq.2 q)]
  · rw [qB_false q, qB_false (fun k => q (hq.1 k))]

set_option maxHeartbeats 8000000 in
theorem queueOk_small (p0 : Option Addr) (n0 c0 : Nat) (its0 : List ItA) (w : World) (hl0 : its0.length = n0) (hI0 : ItemsIn w p0 n0 its0) (ok0 : ∀ x ∈ its0, x.Ok w) (hsm : n0 + totI its0 ≤ 1048576) :
    Calls Try.prog 5 #[.slice p0 n0 c0] w fun e w' => e = .returned (.bool true) ∧ Below w.heap.size w w' := by
  have hn0 : n0 ≤ 1048576 := by omega
  have hsmall := small_of ok0 (by omega)
  have hfit := fit_of (its := its0) (by omega)
  have hbig : ∀ x ∈ its0, x.s.size ≤ 9223372036854775807 ∧ x.n ≤ 9223372036854775807 := fun x hx => ⟨(ok0 x hx).hs, (ok0 x hx).hn⟩
  have CZ := fun X => szItemS_any p0 n0 c0 its0 1048576 X (by omega) hl0
  obtain ⟨left, hleft⟩ : ∃ l : Int, l = (if (n0 : Int) + totI its0 ≤ 1048576 then (1048576 : Int) - n0 - totI its0 else -1) := ⟨_, rfl⟩
  rw [← hleft] at CZ
  have hl2 : ¬ left < 0 := by rw [hleft, if_pos (by omega)]; omega
  clear hleft
  go_enter Try.func5, Try.ntmps5
  go_wp2_with (fail)
  refine (CZ _ hI0 hbig (by omega)).mono ?_
  rintro e w1 ⟨rfl, b1⟩
  clear CZ hbig
  go_wp2_with (fail)
  refine (toItemS_own p0 n0 c0 its0 w1 hn0 hl0 (itemsIn_on hI0 b1) (fun x hx => (ok0 x hx).on b1) hfit).mono ?_
  rintro e w2 ⟨pa, ca, ia, rfl, ra, ea, b2⟩
  have k2 := below_on b1 b2
  have sa := small_con ea.out hsmall
  go_wp2_with (fail)
  refine (specQueueOk_any pa n0 ca ia w2 hn0 ra.len ra.items (fun x hx => (sa x hx).1)).mono ?_
  rintro e w3 ⟨rfl, b3⟩
  have k3 := below_on k2 b3
  rw [qB_con ea.out (fun x hx => (ok0 x hx).len) ra.lens]
  clear ra sa ea
  obtain ⟨R, hR⟩ : ∃ R : Bool, R = qB its0 := ⟨_, rfl⟩
  rw [← hR]
  go_wp2_with (fail)
  refine (toItemS_own p0 n0 c0 its0 w3 hn0 hl0 (itemsIn_on hI0 k3) (fun x hx => (ok0 x hx).on k3) hfit).mono ?_
  rintro e w4 ⟨px, cx, ix, rfl, rx, ex, b4⟩
  have k4 := below_on k3 b4
  have sx := small_con ex.out hsmall
  go_wp2_with (fail)
  refine (implQueueOk_any px n0 cx ix w4 hn0 rx.len rx.items (fun x hx => (sx x hx).1)).mono ?_
  rintro e w5 ⟨rfl, b5⟩
  have k5 := below_on k4 b5
  replace rx := rx.on b5
  rw [qB_con ex.out (fun x hx => (ok0 x hx).len) rx.lens, ← hR]
  have hRR : (R != R) = false := by simp
  clear hR
  go_wp2_with (fail)
  refine (toItemS_own p0 n0 c0 its0 w5 hn0 hl0 (itemsIn_on hI0 k5) (fun x hx => (ok0 x hx).on k5) hfit).mono ?_
  rintro e w6 ⟨py, cy, iy, rfl, ry, ey, b6⟩
  have k6 := below_on k5 b6
  replace rx := rx.on b6
  have sy := small_con ey.out hsmall
  go_wp2_with (fail)
  refine (eqItemS_any px py n0 cx n0 cy ix iy w6 hn0 rx.len ry.len rx.items ry.items (rx.lies fun x hx => (sx x hx).2) (ry.lies fun x hx => (sy x hx).2)).mono ?_
  rintro e w7 ⟨rfl, b7⟩
  have k7 := below_on k6 b7
  rw [decide_eq_true (ex.out.trans ey.out.symm)]
  go_wp2_with (fail)
  go_ret
  exact ⟨rfl, k7⟩

set_option maxHeartbeats 8000000 in
theorem queueOk_law (p0 : Option Addr) (n0 c0 : Nat) (its0 : List ItA) (w : World) (hl0 : its0.length = n0) (hI0 : ItemsIn w p0 n0 its0) (ok0 : ∀ x ∈ its0, x.Ok w) (hn0 : n0 ≤ 9223372036854775807) :
    Calls Try.prog 5 #[.slice p0 n0 c0] w fun e w' => e = .returned (.bool true) ∧ Below w.heap.size w w' := by
  by_cases hsm : n0 + totI its0 ≤ 1048576
  · exact queueOk_small p0 n0 c0 its0 w hl0 hI0 ok0 hsm
  · have hbig : ∀ x ∈ its0, x.s.size ≤ 9223372036854775807 ∧ x.n ≤ 9223372036854775807 := fun x hx => ⟨(ok0 x hx).hs, (ok0 x hx).hn⟩
    have CZ := szItemS_any p0 n0 c0 its0 1048576 w hn0 hl0 hI0 hbig (by omega)
    rw [if_neg (by omega)] at CZ
    clear hI0 ok0 hbig hl0 hsm
    go_enter Try.func5, Try.ntmps5
    go_wp2_with (fail)
    refine CZ.mono ?_
    rintro e w1 ⟨rfl, b1⟩
    go_wp2_with (fail)
    go_ret
    exact ⟨rfl, b1⟩

end Go.Proofs.Ytggbmpgpopenoaa
