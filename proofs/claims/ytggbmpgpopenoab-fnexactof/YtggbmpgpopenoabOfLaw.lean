/-
  FnExactOf returns true for any list of items and any text, and writes nothing that was there; conditions: lengths that there can be.
-/
import Derived.Test.YtggbmpgpopenoabItemsLaw
import Derived.Test.YtggbmpgpopenoabImplOf13
namespace Go.Proofs.Ytggbmpgpopenoab
open Go.RowKit
set_option maxRecDepth 100000

theorem cntI_con (s : ByteArray) {its its' : List ItA} (e : its'.map ItA.con = its.map ItA.con) : cntI s its' = cntI s its := by
  have f : ∀ l : List ItA, cntI s l = (l.map ItA.con).countP (fun c => decide (c.1 = s)) := fun l => by
    rw [cntI, List.countP_map]; rfl
  rw [f, f, e]

set_option maxHeartbeats 8000000 in
theorem of_small (p0 : Option Addr) (n0 c0 : Nat) (its0 : List ItA) (s1 : ByteArray) (w : World) (hl0 : its0.length = n0) (hI0 : ItemsIn w p0 n0 its0) (ok0 : ∀ x ∈ its0, x.Ok w) (hsm : n0 + totI its0 ≤ 1048576) (hs1 : s1.size ≤ 1048576) :
    Calls Try.prog 3 #[.slice p0 n0 c0, .string s1] w fun e w' => e = .returned (.bool true) ∧ Below w.heap.size w w' := by
  have hn0 : n0 ≤ 1048576 := by omega
  have hsmall := small_of ok0 (by omega)
  have hfit := fit_of (its := its0) (by omega)
  have hbig : ∀ x ∈ its0, x.s.size ≤ 9223372036854775807 ∧ x.n ≤ 9223372036854775807 := fun x hx => ⟨(ok0 x hx).hs, (ok0 x hx).hn⟩
  have CZ := fun X => szItemS_any p0 n0 c0 its0 1048576 X (by omega) hl0
  obtain ⟨left, hleft⟩ : ∃ l : Int, l = (if (n0 : Int) + totI its0 ≤ 1048576 then (1048576 : Int) - n0 - totI its0 else -1) := ⟨_, rfl⟩
  rw [← hleft] at CZ
  have hl2 : ¬ left < 0 := by rw [hleft, if_pos (by omega)]; omega
  clear hleft
  go_enter Try.func3, Try.ntmps3
  go_wp2_with (fail)
  refine (CZ _ hI0 hbig (by omega)).mono ?_
  rintro e w1 ⟨rfl, b1⟩
  clear CZ hbig
  go_wp2_with (fail)
  refine (toItemS_own p0 n0 c0 its0 w1 hn0 hl0 (itemsIn_on hI0 b1) (fun x hx => (ok0 x hx).on b1) hfit).mono ?_
  rintro e w2 ⟨pa, ca, ia, rfl, ra, ea, b2⟩
  have k2 := below_on b1 b2
  have sa := small_con ea.out hsmall
  go_wp2_with (fail)
  refine (specOf_any pa n0 ca ia s1 w2 hn0 ra.len ra.items).mono ?_
  rintro e w3 ⟨rfl, rfl⟩
  have k3 := k2
  rw [cntI_con s1 ea.out]
  clear ra sa ea
  obtain ⟨R, hR⟩ : ∃ R : Int, R = ((cntI s1 its0 : Nat) : Int) := ⟨_, rfl⟩
  rw [← hR]
  go_wp2_with (fail)
  refine (toItemS_own p0 n0 c0 its0 w3 hn0 hl0 (itemsIn_on hI0 k3) (fun x hx => (ok0 x hx).on k3) hfit).mono ?_
  rintro e w4 ⟨px, cx, ix, rfl, rx, ex, b4⟩
  have k4 := below_on k3 b4
  have sx := small_con ex.out hsmall
  go_wp2_with (fail)
  refine (implOf_any px n0 cx ix s1 w4 hn0 rx.len rx.items (fun x hx => (sx x hx).1) hs1).mono ?_
  rintro e w5 ⟨rfl, b5⟩
  have k5 := below_on k4 b5
  replace rx := rx.on b5
  rw [cntI_con s1 ex.out, ← hR]
  have hRR : (R != R) = false := by simp
  clear hR
  go_wp2_with (fail)
  refine (toItemS_own p0 n0 c0 its0 w5 hn0 hl0 (itemsIn_on hI0 k5) (fun x hx => (ok0 x hx).on k5) hfit).mono ?_
  rintro e w6 ⟨py, cy, iy, rfl, ry, ey, b6⟩
  have k6 := below_on k5 b6
  replace rx := rx.on b6
  have sy := small_con ey.out hsmall
  go_wp2_with (fail)
  refine (eqItemS_any px py n0 cx n0 cy ix iy w6 hn0 rx.len ry.len rx.items ry.items (rx.lies fun x hx => (sx x hx).2) (ry.lies fun x hx => (sy x hx).2)).mono ?_
  rintro e w7 ⟨rfl, b7⟩
  have k7 := below_on k6 b7
  rw [decide_eq_true (ex.out.trans ey.out.symm)]
  go_wp2_with (fail)
  go_ret
  exact ⟨rfl, k7⟩

set_option maxHeartbeats 8000000 in
theorem of_law (p0 : Option Addr) (n0 c0 : Nat) (its0 : List ItA) (s1 : ByteArray) (w : World) (hl0 : its0.length = n0) (hI0 : ItemsIn w p0 n0 its0) (ok0 : ∀ x ∈ its0, x.Ok w) (hn0 : n0 ≤ 9223372036854775807) (hs1 : s1.size ≤ 9223372036854775807) :
    Calls Try.prog 3 #[.slice p0 n0 c0, .string s1] w fun e w' => e = .returned (.bool true) ∧ Below w.heap.size w w' := by
  by_cases hrt : (s1.size : Int) ≤ 1048576
  · by_cases hsm : n0 + totI its0 ≤ 1048576
    · exact of_small p0 n0 c0 its0 s1 w hl0 hI0 ok0 hsm (by omega)
    · have hbig : ∀ x ∈ its0, x.s.size ≤ 9223372036854775807 ∧ x.n ≤ 9223372036854775807 := fun x hx => ⟨(ok0 x hx).hs, (ok0 x hx).hn⟩
      have CZ := szItemS_any p0 n0 c0 its0 1048576 w hn0 hl0 hI0 hbig (by omega)
      rw [if_neg (by omega)] at CZ
      clear hI0 ok0 hbig hl0 hsm
      go_enter Try.func3, Try.ntmps3
      go_wp2_with (fail)
      refine CZ.mono ?_
      rintro e w1 ⟨rfl, b1⟩
      go_wp2_with (fail)
      go_ret
      exact ⟨rfl, b1⟩
  · clear hI0 ok0 hl0
    go_enter Try.func3, Try.ntmps3
    go_wp2_with (fail)
    go_ret
    exact ⟨rfl, Below.refl _ _⟩

end Go.Proofs.Ytggbmpgpopenoab
