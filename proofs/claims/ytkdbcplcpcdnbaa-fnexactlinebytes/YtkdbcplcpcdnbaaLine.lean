/-
  The laws' own functions of a line: its size, a copy, whether two are the same; conditions: bytes that lie there.
-/
import Derived.Test.YtkdbcplcpcdnbaaItem
namespace Go.Proofs.Ytkdbcplcpcdnbaa
open Go.RowKit
set_option maxRecDepth 100000

set_option maxHeartbeats 2000000 in
theorem szLine_any (kd : Int) (s : ByteArray) (t d : Int) (p : Option Addr) (n c : Nat) (l : Int) (w : World) (hs : s.size ≤ 9223372036854775807) (hn : n ≤ 9223372036854775807) (hl : 0 ≤ l ∧ l ≤ 1048576) :
    Calls Try.prog 27 #[.agg #[.int .i64 kd, .string s, .int .i64 t, .int .i64 d, .slice p n c], .int .i64 l] w fun e w' => e = .returned (.int .i64 (szI s n l)) ∧ Below w.heap.size w w' := by
  have kA : ∀ o, Below w.heap.size w (w.alloc o) := fun o => made_below _ _ (Below.refl _ _)
  have hM : ∀ o, Cells (w.alloc (.cells #[.int .i64 kd, .string s, .int .i64 t, .int .i64 d, .slice p n c] o)) w.heap.size #[.int .i64 kd, .string s, .int .i64 t, .int .i64 d, .slice p n c] := fun o => Cells.made _ _ _
  by_cases h : (s.size : Int) ≤ l
  · obtain ⟨k, hk⟩ : ∃ k : Int, k = l - s.size := ⟨_, rfl⟩
    have hk0 : 0 ≤ k ∧ k ≤ 1048576 := by omega
    have hk1 : ¬ k < 0 := by omega
    have e : szI s n l = if (n : Int) ≤ k then k - n else -1 := by
      unfold szI
      by_cases hh : (n : Int) ≤ k
      · rw [if_pos hh, if_pos (by omega)]; omega
      · rw [if_neg hh, if_neg (by omega)]
    rw [e]
    have e1 : l - (s.size : Int) = k := hk.symm
    clear hk e
    by_cases hh : (n : Int) ≤ k
    · rw [if_pos hh]
      obtain ⟨m, hm⟩ : ∃ m : Int, m = k - n := ⟨_, rfl⟩
      have hm1 : ¬ m < 0 := by omega
      have C := fun X => szByteS_any p n c k X hn hk0
      rw [if_pos hh] at C
      rw [← hm] at C ⊢
      clear hm hh
      go_enter Try.func27, Try.ntmps27
      go_wp2_with (fail)
      refine (C _).mono ?_
      rintro e w1 ⟨rfl, b1⟩
      have k1 := made_below _ _ b1
      clear b1
      go_wp2_with (fail)
      go_ret
      exact ⟨rfl, k1⟩
    · rw [if_neg hh]
      have C := fun X => szByteS_any p n c k X hn hk0
      rw [if_neg hh] at C
      clear hh
      go_enter Try.func27, Try.ntmps27
      go_wp2_with (fail)
      refine (C _).mono ?_
      rintro e w1 ⟨rfl, b1⟩
      have k1 := made_below _ _ b1
      clear b1
      go_wp2_with (fail)
      go_ret
      exact ⟨rfl, k1⟩
  · have e : szI s n l = -1 := by unfold szI; rw [if_neg (by omega)]
    rw [e]
    clear e
    obtain ⟨k, hk⟩ : ∃ k : Int, k = l - s.size := ⟨_, rfl⟩
    have hk1 : k < 0 := by omega
    have e1 : l - (s.size : Int) = k := hk.symm
    clear hk
    go_enter Try.func27, Try.ntmps27
    go_wp2_with (fail)
    go_ret
    exact ⟨rfl, kA _⟩

set_option maxHeartbeats 4000000 in
theorem toLine_own (kd : Int) (s : ByteArray) (t d : Int) (p : Option Addr) (n c : Nat) (xs : List Int) (w : World) (hn : n ≤ 1048576) (hx : xs.length = n) (h : BytesIn w p n xs) :
    Calls Try.prog 29 #[.agg #[.int .i64 kd, .string s, .int .i64 t, .int .i64 d, .slice p n c]] w fun z w' => ∃ p' c', z = .returned (.agg #[.int .i64 kd, .string s, .int .i64 t, .int .i64 d, .slice p' n c']) ∧
      Own 5 w' w.heap.size w'.heap.size (.slice p' n c') n xs ∧ Below w.heap.size w w' := by
  have kA : ∀ o1 o2 o3, Below w.heap.size w (((w.alloc o1).alloc o2).alloc o3) := fun o1 o2 o3 => made_below _ _ (made_below _ _ (made_below _ _ (Below.refl _ _)))
  have sz : ∀ (W : World) o, (W.alloc o).heap.size = W.heap.size + 1 := fun W o => by simp
  go_enter Try.func29, Try.ntmps29
  go_wp2_with (fail)
  refine (toByteS_own p n c xs _ hn hx (in_below h (kA _ _ _))).mono ?_
  rintro z w1 ⟨p1, c1, rfl, r1, b1⟩
  have C1 := (Cells.made (w.alloc _) _ _).on (made_below _ _ b1)
  have C2 := (Cells.made ((w.alloc _).alloc _) _ _).on b1
  have k1 := made_below _ _ (made_below _ _ (made_below _ _ b1))
  rw [sz] at C1
  rw [sz, sz] at C2
  rw [sz, sz, sz] at r1
  clear b1 kA sz
  have s1 : w1.cell? ⟨w.heap.size + 1 + 1, 4, none⟩ = some (.slice none 0 0) := (C2.2 4).1
  have f1 := (C2.2 4).2
  obtain ⟨X1, hX1⟩ : ∃ X1, X1 = w1.setCell ⟨w.heap.size + 1 + 1, 4, none⟩ (.slice p1 n c1) := ⟨_, rfl⟩
  have kX : Below w.heap.size w X1 := by rw [hX1]; exact k1.setCell (by show w.heap.size ≤ w.heap.size + 1 + 1; omega) _
  replace C1 := C1.other (a := ⟨w.heap.size + 1 + 1, 4, none⟩) (.slice p1 n c1) (by show w.heap.size + 1 ≠ w.heap.size + 1 + 1; omega)
  replace C2 := C2.set 4 (by simp) (.slice p1 n c1)
  have rX := r1.set_below (a := ⟨w.heap.size + 1 + 1, 4, none⟩) (by show w.heap.size + 1 + 1 < _; omega) (.slice p1 n c1)
  rw [← hX1] at C1 C2 rX
  have zX : X1.heap.size = w1.heap.size := by rw [hX1]; simp
  have m0 : X1.cell? ⟨w.heap.size + 1 + 1, 0, none⟩ = some (.int .i64 kd) := (C2.2 0).1
  have m1 : X1.cell? ⟨w.heap.size + 1 + 1, 1, none⟩ = some (.string s) := (C2.2 1).1
  have m2 : X1.cell? ⟨w.heap.size + 1 + 1, 2, none⟩ = some (.int .i64 t) := (C2.2 2).1
  have m3 : X1.cell? ⟨w.heap.size + 1 + 1, 3, none⟩ = some (.int .i64 d) := (C2.2 3).1
  have m4 : X1.cell? ⟨w.heap.size + 1 + 1, 4, none⟩ = some (.slice p1 n c1) := (C2.2 4).1
  replace hX1 : Hid (w1.setCell ⟨w.heap.size + 1 + 1, 4, none⟩ (.slice p1 n c1) = X1) := hX1.symm
  have n0 : (X1).cell? ⟨w.heap.size + 1, 0, none⟩ = some (.int .i64 0) := (C1.2 0).1
  have z0 := (C1.2 0).2
  have D1 := C1.set 0 (by simp) (.int .i64 kd)
  have n1 : (X1.setCell ⟨w.heap.size + 1, 0, none⟩ (.int .i64 kd)).cell? ⟨w.heap.size + 1, 1, none⟩ = some (.string ByteArray.empty) := (D1.2 1).1
  have z1 := (D1.2 1).2
  have D2 := D1.set 1 (by simp) (.string s)
  have n2 : ((X1.setCell ⟨w.heap.size + 1, 0, none⟩ (.int .i64 kd)).setCell ⟨w.heap.size + 1, 1, none⟩ (.string s)).cell? ⟨w.heap.size + 1, 2, none⟩ = some (.int .i64 0) := (D2.2 2).1
  have z2 := (D2.2 2).2
  have D3 := D2.set 2 (by simp) (.int .i64 t)
  have n3 : (((X1.setCell ⟨w.heap.size + 1, 0, none⟩ (.int .i64 kd)).setCell ⟨w.heap.size + 1, 1, none⟩ (.string s)).setCell ⟨w.heap.size + 1, 2, none⟩ (.int .i64 t)).cell? ⟨w.heap.size + 1, 3, none⟩ = some (.int .i64 0) := (D3.2 3).1
  have z3 := (D3.2 3).2
  have D4 := D3.set 3 (by simp) (.int .i64 d)
  have n4 : ((((X1.setCell ⟨w.heap.size + 1, 0, none⟩ (.int .i64 kd)).setCell ⟨w.heap.size + 1, 1, none⟩ (.string s)).setCell ⟨w.heap.size + 1, 2, none⟩ (.int .i64 t)).setCell ⟨w.heap.size + 1, 3, none⟩ (.int .i64 d)).cell? ⟨w.heap.size + 1, 4, none⟩ = some (.slice none 0 0) := (D4.2 4).1
  have z4 := (D4.2 4).2
  have D5 := D4.set 4 (by simp) (.slice p1 n c1)
  obtain ⟨X3, hX3⟩ : ∃ X3, X3 = ((((X1.setCell ⟨w.heap.size + 1, 0, none⟩ (.int .i64 kd)).setCell ⟨w.heap.size + 1, 1, none⟩ (.string s)).setCell ⟨w.heap.size + 1, 2, none⟩ (.int .i64 t)).setCell ⟨w.heap.size + 1, 3, none⟩ (.int .i64 d)).setCell ⟨w.heap.size + 1, 4, none⟩ (.slice p1 n c1) := ⟨_, rfl⟩
  have kZ : Below w.heap.size w X3 := by rw [hX3]; exact ((((kX.setCell (by show w.heap.size ≤ w.heap.size + 1; omega) _).setCell (by show w.heap.size ≤ w.heap.size + 1; omega) _).setCell (by show w.heap.size ≤ w.heap.size + 1; omega) _).setCell (by show w.heap.size ≤ w.heap.size + 1; omega) _).setCell (by show w.heap.size ≤ w.heap.size + 1; omega) _
  replace rX := ((((rX.set_below (a := ⟨w.heap.size + 1, 0, none⟩) (by show w.heap.size + 1 < _; omega) (.int .i64 kd)).set_below (a := ⟨w.heap.size + 1, 1, none⟩) (by show w.heap.size + 1 < _; omega) (.string s)).set_below (a := ⟨w.heap.size + 1, 2, none⟩) (by show w.heap.size + 1 < _; omega) (.int .i64 t)).set_below (a := ⟨w.heap.size + 1, 3, none⟩) (by show w.heap.size + 1 < _; omega) (.int .i64 d)).set_below (a := ⟨w.heap.size + 1, 4, none⟩) (by show w.heap.size + 1 < _; omega) (.slice p1 n c1)
  rw [← hX3] at D5 rX
  have y0 : X3.cell? ⟨w.heap.size + 1, 0, none⟩ = some (.int .i64 kd) := (D5.2 0).1
  have y1 : X3.cell? ⟨w.heap.size + 1, 1, none⟩ = some (.string s) := (D5.2 1).1
  have y2 : X3.cell? ⟨w.heap.size + 1, 2, none⟩ = some (.int .i64 t) := (D5.2 2).1
  have y3 : X3.cell? ⟨w.heap.size + 1, 3, none⟩ = some (.int .i64 d) := (D5.2 3).1
  have y4 : X3.cell? ⟨w.heap.size + 1, 4, none⟩ = some (.slice p1 n c1) := (D5.2 4).1
  have zz : w1.heap.size = X3.heap.size := by rw [hX3, ← zX]; simp
  replace hX3 : Hid (((((X1.setCell ⟨w.heap.size + 1, 0, none⟩ (.int .i64 kd)).setCell ⟨w.heap.size + 1, 1, none⟩ (.string s)).setCell ⟨w.heap.size + 1, 2, none⟩ (.int .i64 t)).setCell ⟨w.heap.size + 1, 3, none⟩ (.int .i64 d)).setCell ⟨w.heap.size + 1, 4, none⟩ (.slice p1 n c1) = X3) := hX3.symm
  replace zz : Hid (w1.heap.size = X3.heap.size) := zz
  clear zX k1 kX r1 D1 D2 D3 D4 C1 C2
  go_wp2_with (first | rw [hX1.out] | rw [hX3.out])
  refine bodyPost_ret (v := .agg #[.int .i64 kd, .string s, .int .i64 t, .int .i64 d, .slice p1 n c1]) ?_ rfl ⟨_, _, rfl, ?_, kZ⟩
  · simp only [results, Try.f29]
    go_simp
  · have e2 := zz.out
    rw [← e2]
    exact ⟨owns_mono rX.1 (by omega), rX.2⟩

set_option maxHeartbeats 2000000 in
theorem eqLine_any (kd kd' : Int) (s s' : ByteArray) (t t' d d' : Int) (p p' : Option Addr) (n c n' c' : Nat) (xs xs' : List Int) (w : World) (hn : n ≤ 9223372036854775807) (hx : xs.length = n) (hx' : xs'.length = n') (h1 : BytesIn w p n xs) (h2 : BytesIn w p' n' xs') :
    Calls Try.prog 31 #[.agg #[.int .i64 kd, .string s, .int .i64 t, .int .i64 d, .slice p n c], .agg #[.int .i64 kd', .string s', .int .i64 t', .int .i64 d', .slice p' n' c']] w fun z w' => z = .returned (.bool (decide (kd = kd' ∧ s = s' ∧ t = t' ∧ d = d' ∧ xs = xs'))) ∧ Below w.heap.size w w' := by
  have kA : ∀ o1 o2, Below w.heap.size w ((w.alloc o1).alloc o2) := fun o1 o2 => made_below _ _ (made_below _ _ (Below.refl _ _))
  obtain ⟨R, hR⟩ : ∃ R : Bool, R = decide (kd = kd' ∧ s = s' ∧ t = t' ∧ d = d' ∧ xs = xs') := ⟨_, rfl⟩
  rw [← hR]
  replace hR : Hid (R = decide (kd = kd' ∧ s = s' ∧ t = t' ∧ d = d' ∧ xs = xs')) := hR
  by_cases hk : kd = kd'
  · subst hk
    by_cases hs : s = s'
    · subst hs
      by_cases ht : t = t'
      · subst ht
        by_cases hd : d = d'
        · subst hd
          go_enter Try.func31, Try.ntmps31
          go_wp2_with (fail)
          refine (eqByteS_any p p' n n' c c' xs xs' _ hn hx hx' (in_below h1 (kA _ _)) (in_below h2 (kA _ _))).mono ?_
          rintro z w1 ⟨rfl, b1⟩
          have k1 := made_below _ _ (made_below _ _ b1)
          clear b1 kA
          by_cases hxx : xs = xs'
          · rw [decide_eq_true hxx]
            have hr : R = true := by rw [hR.out]; simp [hxx]
            subst hr
            clear hR hxx
            go_wp2_with (fail)
            go_ret
            exact ⟨rfl, k1⟩
          · rw [decide_eq_false hxx]
            have hr : R = false := by rw [hR.out]; exact decide_eq_false fun k => hxx k.2.2.2.2
            subst hr
            clear hR hxx
            go_wp2_with (fail)
            go_ret
            exact ⟨rfl, k1⟩
        · have hr : R = false := by rw [hR.out]; exact decide_eq_false fun k => hd k.2.2.2.1
          subst hr
          have hd' : (d != d') = true := by simp [hd]
          clear hR hd
          go_enter Try.func31, Try.ntmps31
          go_wp2_with (fail)
          go_ret
          exact ⟨rfl, kA _ _⟩
      · have hr : R = false := by rw [hR.out]; exact decide_eq_false fun k => ht k.2.2.1
        subst hr
        have ht' : (t != t') = true := by simp [ht]
        clear hR ht
        go_enter Try.func31, Try.ntmps31
        go_wp2_with (fail)
        go_ret
        exact ⟨rfl, kA _ _⟩
    · have hr : R = false := by rw [hR.out]; exact decide_eq_false fun k => hs k.2.1
      subst hr
      have hs' : (s.toList == s'.toList) = false := str_ne hs
      clear hR hs
      go_enter Try.func31, Try.ntmps31
      go_wp2_with (fail)
      go_ret
      exact ⟨rfl, kA _ _⟩
  · have hr : R = false := by rw [hR.out]; exact decide_eq_false fun k => hk k.1
    subst hr
    have hk' : (kd != kd') = true := by simp [hk]
    clear hR hk
    go_enter Try.func31, Try.ntmps31
    go_wp2_with (fail)
    go_ret
    exact ⟨rfl, kA _ _⟩

end Go.Proofs.Ytkdbcplcpcdnbaa
