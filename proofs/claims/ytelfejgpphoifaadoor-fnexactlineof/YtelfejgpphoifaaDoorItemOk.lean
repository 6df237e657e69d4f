/-
  Whether an item is right, as the specification and the program tell it; conditions: a route that there can be.
-/
import Derived.Test.YtelfejgpphoifaaDoorUnhex
import Derived.Test.YtelfejgpphoifaaDoorCells
namespace Go.Proofs.YtelfejgpphoifaaDoor
open Go.RowKit
set_option maxRecDepth 100000

/-- A route: sixteen signs of two each. -/
def rtB (s : ByteArray) : Bool := goodB s && decide (unN s = 8)

/-- What a right item is. -/
def itB (s : ByteArray) (t d : Int) (n : Nat) : Bool := rtB s && decide (0 ≤ t ∧ t ≤ 9) && decide (0 ≤ d ∧ d ≤ 100000) && decide (n ≤ 1560)

theorem in_any (x lo hi : Int) (X : World) : Calls Tryd.prog 36 #[.int .i64 x, .int .i64 lo, .int .i64 hi] X fun e w' => e = .returned (.bool (decide (lo ≤ x ∧ x ≤ hi))) ∧ w' = X := by
  by_cases h1 : lo ≤ x
  · by_cases h2 : x ≤ hi
    · rw [decide_eq_true ⟨h1, h2⟩]
      go_enter Tryd.func36, Tryd.ntmps36
      go_wp2_with (fail)
      go_ret
      exact ⟨rfl, rfl⟩
    · rw [decide_eq_false (fun k => h2 k.2)]
      go_enter Tryd.func36, Tryd.ntmps36
      go_wp2_with (fail)
      go_ret
      exact ⟨rfl, rfl⟩
  · rw [decide_eq_false (fun k => h1 k.1)]
    go_enter Tryd.func36, Tryd.ntmps36
    go_wp2_with (fail)
    go_ret
    exact ⟨rfl, rfl⟩

theorem dueOk_any (x : Int) (X : World) : Calls Tryd.prog 76 #[.int .i64 x] X fun e w' => e = .returned (.bool (decide (0 ≤ x ∧ x ≤ 100000))) ∧ w' = X := by
  by_cases h1 : 0 ≤ x
  · by_cases h2 : x ≤ 100000
    · rw [decide_eq_true ⟨h1, h2⟩]
      go_enter Tryd.func76, Tryd.ntmps76
      go_wp2_with (fail)
      go_ret
      exact ⟨rfl, rfl⟩
    · rw [decide_eq_false (fun k => h2 k.2)]
      go_enter Tryd.func76, Tryd.ntmps76
      go_wp2_with (fail)
      go_ret
      exact ⟨rfl, rfl⟩
  · rw [decide_eq_false (fun k => h1 k.1)]
    go_enter Tryd.func76, Tryd.ntmps76
    go_wp2_with (fail)
    go_ret
    exact ⟨rfl, rfl⟩

theorem routeOk_any (s : ByteArray) (w : World) (hs : s.size ≤ 1048576) : Calls Tryd.prog 75 #[.string s] w fun e w' => e = .returned (.bool (rtB s)) ∧ Below w.heap.size w w' := by
  have C := implUnhex_any s w hs
  obtain ⟨R, hR⟩ : ∃ R : Bool, R = rtB s := ⟨_, rfl⟩
  rw [← hR]
  replace hR : Hid (R = rtB s) := hR
  have hu : unN s ≤ 1048576 := by unfold unN; split <;> omega
  cases hg : goodB s
  · rw [hg] at C
    have hr : R = false := by rw [hR.out, rtB, hg]; rfl
    subst hr
    clear hR hg
    generalize unN s = m at C hu
    generalize unL s = ys at C
    go_enter Tryd.func75, Tryd.ntmps75
    go_wp2_with (fail)
    refine C.mono ?_
    rintro e w1 ⟨p, c, rfl, r1, b1⟩
    clear r1
    go_wp2_with (fail)
    go_ret
    exact ⟨rfl, b1⟩
  · rw [hg] at C
    have hr : R = decide (unN s = 8) := by rw [hR.out, rtB, hg]; rfl
    clear hR hg
    generalize unN s = m at C hu hr
    generalize unL s = ys at C
    by_cases h8 : m = 8
    · subst h8
      have hr' : R = true := by rw [hr]; rfl
      subst hr'
      clear hr
      go_enter Tryd.func75, Tryd.ntmps75
      go_wp2_with (fail)
      refine C.mono ?_
      rintro e w1 ⟨p, c, rfl, r1, b1⟩
      clear r1
      go_wp2_with (fail)
      go_ret
      exact ⟨rfl, b1⟩
    · have hr' : R = false := by rw [hr]; exact decide_eq_false h8
      subst hr'
      have h8' : ((m : Int) == 8) = false := by simp; omega
      clear hr h8
      go_enter Tryd.func75, Tryd.ntmps75
      go_wp2_with (fail)
      refine C.mono ?_
      rintro e w1 ⟨p, c, rfl, r1, b1⟩
      clear r1
      go_wp2_with (fail)
      go_ret
      exact ⟨rfl, b1⟩

theorem l13Route_any (s : ByteArray) (w : World) (hs : s.size ≤ 1048576) : Calls Tryd.prog 35 #[.string s] w fun e w' => e = .returned (.bool (rtB s)) ∧ Below w.heap.size w w' := by
  have C := specUnhex_any s w hs
  obtain ⟨R, hR⟩ : ∃ R : Bool, R = rtB s := ⟨_, rfl⟩
  rw [← hR]
  replace hR : Hid (R = rtB s) := hR
  have hu : unN s ≤ 1048576 := by unfold unN; split <;> omega
  cases hg : goodB s
  · rw [hg] at C
    have hr : R = false := by rw [hR.out, rtB, hg]; rfl
    subst hr
    clear hR hg
    generalize unN s = m at C hu
    generalize unL s = ys at C
    go_enter Tryd.func35, Tryd.ntmps35
    go_wp2_with (fail)
    refine C.mono ?_
    rintro e w1 ⟨p, c, rfl, r1, b1⟩
    clear r1
    go_wp2_with (fail)
    go_ret
    exact ⟨rfl, b1⟩
  · rw [hg] at C
    have hr : R = decide (unN s = 8) := by rw [hR.out, rtB, hg]; rfl
    clear hR hg
    generalize unN s = m at C hu hr
    generalize unL s = ys at C
    by_cases h8 : m = 8
    · subst h8
      have hr' : R = true := by rw [hr]; rfl
      subst hr'
      clear hr
      go_enter Tryd.func35, Tryd.ntmps35
      go_wp2_with (fail)
      refine C.mono ?_
      rintro e w1 ⟨p, c, rfl, r1, b1⟩
      clear r1
      go_wp2_with (fail)
      go_ret
      exact ⟨rfl, b1⟩
    · have hr' : R = false := by rw [hr]; exact decide_eq_false h8
      subst hr'
      have h8' : ((m : Int) == 8) = false := by simp; omega
      clear hr h8
      go_enter Tryd.func35, Tryd.ntmps35
      go_wp2_with (fail)
      refine C.mono ?_
      rintro e w1 ⟨p, c, rfl, r1, b1⟩
      clear r1
      go_wp2_with (fail)
      go_ret
      exact ⟨rfl, b1⟩

set_option maxHeartbeats 4000000 in
theorem implItemOk_any (s : ByteArray) (t d : Int) (p : Option Addr) (n c : Nat) (w : World) (hs : s.size ≤ 1048576) :
    Calls Tryd.prog 74 #[.agg #[.string s, .int .i64 t, .int .i64 d, .slice p n c]] w fun z w' => z = .returned (.bool (itB s t d n)) ∧ Below w.heap.size w w' := by
  have C := fun X => routeOk_any s X hs
  have D := fun X => dueOk_any d X
  obtain ⟨R, hR⟩ : ∃ R : Bool, R = itB s t d n := ⟨_, rfl⟩
  rw [← hR]
  replace hR : Hid (R = itB s t d n) := hR
  unfold itB at hR
  generalize rtB s = R0 at C hR
  generalize decide (0 ≤ d ∧ d ≤ 100000) = R1 at D hR
  have hM : ∀ o, Cells (w.alloc (.cells #[.string s, .int .i64 t, .int .i64 d, .slice p n c] o)) w.heap.size #[.string s, .int .i64 t, .int .i64 d, .slice p n c] := fun o => Cells.made _ _ _
  go_enter Tryd.func74, Tryd.ntmps74
  go_wp2_with (fail)
  refine (C _).mono ?_
  rintro z w1 ⟨rfl, b1⟩
  have k1 := made_below _ _ b1
  have C1 := (hM _).on b1
  clear b1 hM
  have l1 : w1.cell? ⟨w.heap.size, 1, none⟩ = some (.int .i64 t) := (C1.2 1).1
  have l2 : w1.cell? ⟨w.heap.size, 2, none⟩ = some (.int .i64 d) := (C1.2 2).1
  have l3 : w1.cell? ⟨w.heap.size, 3, none⟩ = some (.slice p n c) := (C1.2 3).1
  clear C1
  cases R0
  · have hr : R = false := by rw [hR.out]; rfl
    subst hr
    clear hR
    go_wp2_with (fail)
    go_ret
    exact ⟨rfl, k1⟩
  · by_cases h1 : 0 ≤ t
    · by_cases h2 : t ≤ 9
      · rw [decide_eq_true (show 0 ≤ t ∧ t ≤ 9 from ⟨h1, h2⟩)] at hR
        go_wp2_with (fail)
        refine (D _).mono ?_
        rintro z w2 ⟨rfl, rfl⟩
        cases R1
        · have hr : R = false := by rw [hR.out]; rfl
          subst hr
          clear hR
          go_wp2_with (fail)
          go_ret
          exact ⟨rfl, k1⟩
        · by_cases h3 : (n : Int) ≤ 1560
          · have hr : R = true := by rw [hR.out, decide_eq_true (show n ≤ 1560 by omega)]; rfl
            subst hr
            clear hR
            go_wp2_with (fail)
            go_ret
            exact ⟨rfl, k1⟩
          · have hr : R = false := by rw [hR.out, decide_eq_false (show ¬ n ≤ 1560 by omega)]; rfl
            subst hr
            clear hR
            go_wp2_with (fail)
            go_ret
            exact ⟨by rw [decide_eq_false (Int.not_le.2 h3)]; rfl, k1⟩
      · have hr : R = false := by rw [hR.out, decide_eq_false (show ¬ (0 ≤ t ∧ t ≤ 9) from fun k => h2 k.2)]; rfl
        subst hr
        clear hR
        go_wp2_with (fail)
        go_ret
        exact ⟨rfl, k1⟩
    · have hr : R = false := by rw [hR.out, decide_eq_false (show ¬ (0 ≤ t ∧ t ≤ 9) from fun k => h1 k.1)]; rfl
      subst hr
      clear hR
      go_wp2_with (fail)
      go_ret
      exact ⟨rfl, k1⟩

set_option maxHeartbeats 4000000 in
theorem specItemOk_any (s : ByteArray) (t d : Int) (p : Option Addr) (n c : Nat) (w : World) (hs : s.size ≤ 1048576) :
    Calls Tryd.prog 33 #[.agg #[.string s, .int .i64 t, .int .i64 d, .slice p n c]] w fun z w' => z = .returned (.bool (itB s t d n)) ∧ Below w.heap.size w w' := by
  have C := fun X => l13Route_any s X hs
  have D := fun X => in_any d 0 100000 X
  have T := fun X => in_any t 0 9 X
  obtain ⟨R, hR⟩ : ∃ R : Bool, R = itB s t d n := ⟨_, rfl⟩
  rw [← hR]
  replace hR : Hid (R = itB s t d n) := hR
  unfold itB at hR
  generalize rtB s = R0 at C hR
  generalize decide (0 ≤ d ∧ d ≤ 100000) = R1 at D hR
  generalize decide (0 ≤ t ∧ t ≤ 9) = R2 at T hR
  have hM : ∀ o, Cells (w.alloc (.cells #[.string s, .int .i64 t, .int .i64 d, .slice p n c] o)) w.heap.size #[.string s, .int .i64 t, .int .i64 d, .slice p n c] := fun o => Cells.made _ _ _
  go_enter Tryd.func33, Tryd.ntmps33
  go_wp2_with (fail)
  refine (C _).mono ?_
  rintro z w1 ⟨rfl, b1⟩
  have k1 := made_below _ _ b1
  have C1 := (hM _).on b1
  clear b1 hM
  have l1 : w1.cell? ⟨w.heap.size, 1, none⟩ = some (.int .i64 t) := (C1.2 1).1
  have l2 : w1.cell? ⟨w.heap.size, 2, none⟩ = some (.int .i64 d) := (C1.2 2).1
  have l3 : w1.cell? ⟨w.heap.size, 3, none⟩ = some (.slice p n c) := (C1.2 3).1
  clear C1
  cases R0
  · have hr : R = false := by rw [hR.out]; rfl
    subst hr
    clear hR
    go_wp2_with (fail)
    go_ret
    exact ⟨rfl, k1⟩
  · go_wp2_with (fail)
    refine (T _).mono ?_
    rintro z w2 ⟨rfl, rfl⟩
    cases R2
    · have hr : R = false := by rw [hR.out]; rfl
      subst hr
      clear hR
      go_wp2_with (fail)
      go_ret
      exact ⟨rfl, k1⟩
    · go_wp2_with (fail)
      refine (D _).mono ?_
      rintro z w2 ⟨rfl, rfl⟩
      cases R1
      · have hr : R = false := by rw [hR.out]; rfl
        subst hr
        clear hR
        go_wp2_with (fail)
        go_ret
        exact ⟨rfl, k1⟩
      · by_cases h3 : (n : Int) ≤ 1560
        · have hr : R = true := by rw [hR.out, decide_eq_true (show n ≤ 1560 by omega)]; rfl
          subst hr
          clear hR
          go_wp2_with (fail)
          go_ret
          exact ⟨rfl, k1⟩
        · have hr : R = false := by rw [hR.out, decide_eq_false (show ¬ n ≤ 1560 by omega)]; rfl
          subst hr
          clear hR
          go_wp2_with (fail)
          go_ret
          exact ⟨by rw [decide_eq_false (Int.not_le.2 h3)]; rfl, k1⟩

end Go.Proofs.YtelfejgpphoifaaDoor
