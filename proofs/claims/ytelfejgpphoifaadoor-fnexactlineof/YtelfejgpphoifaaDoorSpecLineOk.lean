/-
  Whether a line is right, by the program and by the specification. Conditions: lengths that a law hands over, bytes that lie there.
-/
import Derived.Test.YtelfejgpphoifaaDoorLineOk
namespace Go.Proofs.YtelfejgpphoifaaDoor
open Go.RowKit
set_option maxRecDepth 100000

theorem str_none (s : ByteArray) : (s.toList == ([] : List UInt8)) = decide (s = ByteArray.empty) := by
  by_cases h : s = ByteArray.empty
  · subst h; rw [ByteArray.toList_eq, decide_eq_true rfl]; rfl
  · rw [decide_eq_false h]
    have := str_ne h
    rw [ByteArray.toList_eq ByteArray.empty] at this
    exact this
set_option maxHeartbeats 8000000 in
theorem specLineOk_any (kd : Int) (s : ByteArray) (t d : Int) (p : Option Addr) (n c : Nat) (xs : List Int) (w : World) (hs : s.size ≤ 1048576) (hn : n ≤ 1048576) (hx : xs.length = n) (h : BytesIn w p n xs) :
    Calls Tryd.prog 20 #[.agg #[.int .i64 kd, .string s, .int .i64 t, .int .i64 d, .slice p n c]] w fun z w' => z = .returned (.bool (lnB kd s t d n)) ∧ Below w.heap.size w w' := by
  have kA : ∀ o, Below w.heap.size w (w.alloc o) := fun o => made_below _ _ (Below.refl _ _)
  have hM : ∀ o, Cells (w.alloc (.cells #[.int .i64 kd, .string s, .int .i64 t, .int .i64 d, .slice p n c] o)) w.heap.size #[.int .i64 kd, .string s, .int .i64 t, .int .i64 d, .slice p n c] := fun o => Cells.made _ _ _
  obtain ⟨R, hR⟩ : ∃ R : Bool, R = lnB kd s t d n := ⟨_, rfl⟩
  rw [← hR]
  replace hR : Hid (R = lnB kd s t d n) := hR
  unfold lnB at hR
  by_cases h1 : kd = 1
  · subst h1
    rw [if_pos rfl] at hR
    go_enter Tryd.func20, Tryd.ntmps20
    go_wp2_with (fail)
    refine (l14Item_any 1 s t d p n c xs _ hn hx (in_below h (kA _))).mono ?_
    rintro z w1 ⟨p1, c1, rfl, o1, b1⟩
    have k1 := made_below _ _ b1
    clear b1 hM o1
    go_wp2_with (fail)
    refine (specItemOk_any s t d p1 n c1 _ hs).mono ?_
    rintro z w2 ⟨rfl, b2⟩
    rw [← hR.out]
    go_wp2_with (fail)
    go_ret
    exact ⟨rfl, below_on k1 b2⟩
  · have q1 : (kd == 1) = false := by simp [h1]
    rw [if_neg h1] at hR
    by_cases h2 : kd = 2
    · subst h2
      rw [if_pos rfl] at hR
      have C := fun X => l13Route_any s X hs
      generalize rtB s = R0 at C hR
      go_enter Tryd.func20, Tryd.ntmps20
      go_wp2_with (fail)
      refine (C _).mono ?_
      rintro z w1 ⟨rfl, b1⟩
      have k1 := made_below _ _ b1
      have C1 := (hM _).on b1
      have l2 : w1.cell? ⟨w.heap.size, 2, none⟩ = some (.int .i64 t) := (C1.2 2).1
      have l3 : w1.cell? ⟨w.heap.size, 3, none⟩ = some (.int .i64 d) := (C1.2 3).1
      have l4 : w1.cell? ⟨w.heap.size, 4, none⟩ = some (.slice p n c) := (C1.2 4).1
      clear C1 b1 hM h
      cases R0
      · have hr : R = false := by rw [hR.out]; rfl
        subst hr
        clear hR
        go_wp2_with (fail)
        go_ret
        exact ⟨rfl, k1⟩
      · by_cases e1 : t = 0
        · subst e1
          by_cases e2 : d = 0
          · subst e2
            by_cases e : n = 0
            · have hr : R = true := by rw [hR.out]; simp [e]
              subst hr
              subst e
              clear hR
              go_wp2_with (fail)
              go_ret
              exact ⟨rfl, k1⟩
            · have hr : R = false := by rw [hR.out]; simp [e]
              have e3 : ((n : Int) == 0) = false := by simp; omega
              subst hr
              clear hR
              go_wp2_with (fail)
              go_ret
              exact ⟨rfl, k1⟩
          · have hr : R = false := by rw [hR.out]; simp [e2]
            subst hr
            have e2' : (d == 0) = false := by simp [e2]
            clear hR e2
            go_wp2_with (fail)
            go_ret
            exact ⟨rfl, k1⟩
        · have hr : R = false := by rw [hR.out]; simp [e1]
          subst hr
          have e1' : (t == 0) = false := by simp [e1]
          clear hR e1
          go_wp2_with (fail)
          go_ret
          exact ⟨rfl, k1⟩
    · have q2 : (kd == 2) = false := by simp [h2]
      rw [if_neg h2] at hR
      by_cases h3 : kd = 3
      · subst h3
        rw [if_pos rfl] at hR
        have D := fun X => in_any d 0 100000 X
        generalize decide (0 ≤ d ∧ d ≤ 100000) = R1 at D hR
        by_cases es : s = ByteArray.empty
        · have es' : (s.toList == ([] : List UInt8)) = true := by rw [str_none]; exact decide_eq_true es
          rw [decide_eq_true es] at hR
          clear es
          by_cases e1 : t = 0
          · subst e1
            rw [decide_eq_true rfl] at hR
            go_enter Tryd.func20, Tryd.ntmps20
            go_wp2_with (fail)
            refine (D _).mono ?_
            rintro z w1 ⟨rfl, rfl⟩
            cases R1
            · have hr : R = false := by rw [hR.out]; rfl
              subst hr
              clear hR
              go_wp2_with (fail)
              go_ret
              exact ⟨rfl, kA _⟩
            · by_cases e : n = 0
              · have hr : R = true := by rw [hR.out]; simp [e]
                subst hr
                subst e
                clear hR
                go_wp2_with (fail)
                go_ret
                exact ⟨rfl, kA _⟩
              · have hr : R = false := by rw [hR.out]; simp [e]
                have e3 : ((n : Int) == 0) = false := by simp; omega
                subst hr
                clear hR
                go_wp2_with (fail)
                go_ret
                exact ⟨rfl, kA _⟩
          · have hr : R = false := by rw [hR.out]; simp [e1]
            subst hr
            have e1' : (t == 0) = false := by simp [e1]
            clear hR e1
            go_enter Tryd.func20, Tryd.ntmps20
            go_wp2_with (fail)
            go_ret
            exact ⟨rfl, kA _⟩
        · have es' : (s.toList == ([] : List UInt8)) = false := by rw [str_none]; exact decide_eq_false es
          have hr : R = false := by rw [hR.out]; simp [es]
          subst hr
          clear hR es
          go_enter Tryd.func20, Tryd.ntmps20
          go_wp2_with (fail)
          go_ret
          exact ⟨rfl, kA _⟩
      · have q3 : (kd == 3) = false := by simp [h3]
        rw [if_neg h3] at hR
        have hr := hR.out
        subst hr
        clear hR h1 h2 h3
        go_enter Tryd.func20, Tryd.ntmps20
        go_wp2_with (fail)
        go_ret
        exact ⟨rfl, kA _⟩

end Go.Proofs.YtelfejgpphoifaaDoor
