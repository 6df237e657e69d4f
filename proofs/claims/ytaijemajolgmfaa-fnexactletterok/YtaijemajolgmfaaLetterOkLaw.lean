/-
  FnExactLetterOk returns true for any letter, and writes nothing that was there; conditions: lengths that there can be.
-/
import Derived.Test.YtaijemajolgmfaaImplLetterB
namespace Go.Proofs.Ytaijemajolgmfaa
open Go.RowKit

set_option maxHeartbeats 8000000 in
theorem letterOk_small (e0 : Int) (p0 p1 : Option Addr) (n0 q0 n1 q1 : Nat) (xs0 xs1 : List Int) (w : World) (hs : n0 + n1 ≤ 1048576) (hx0 : xs0.length = n0) (hx1 : xs1.length = n1) (h0 : BytesIn w p0 n0 xs0) (h1 : BytesIn w p1 n1 xs1) :
    Calls Try.prog 5 #[.agg #[.int .i64 e0, .slice p0 n0 q0, .slice p1 n1 q1]] w fun e w' => e = .returned (.bool true) ∧ Below w.heap.size w w' := by
  have hn0 : n0 ≤ 1048576 := by omega
  have hn1 : n1 ≤ 1048576 := by omega
  obtain ⟨W, hW⟩ : ∃ W, W = w.alloc (.cells #[.int .i64 e0, .slice p0 n0 q0, .slice p1 n1 q1] 30) := ⟨_, rfl⟩
  have kA : Below w.heap.size w W := by rw [hW]; exact made_below _ _ (Below.refl _ _)
  have CB : Cells W w.heap.size #[.int .i64 e0, .slice p0 n0 q0, .slice p1 n1 q1] := by rw [hW]; exact Cells.made _ _ _
  have la0 : W.cell? ⟨w.heap.size, 0, none⟩ = some (.int .i64 e0) := (CB.2 0).1
  have la1 : W.cell? ⟨w.heap.size, 1, none⟩ = some (.slice p0 n0 q0) := (CB.2 1).1
  have la2 : W.cell? ⟨w.heap.size, 2, none⟩ = some (.slice p1 n1 q1) := (CB.2 2).1
  replace h0 := in_below h0 kA
  replace h1 := in_below h1 kA
  replace hW : Hid (w.alloc (.cells #[.int .i64 e0, .slice p0 n0 q0, .slice p1 n1 q1] 30) = W) := hW.symm
  have CI := fun (p q : Option Addr) (c d : Nat) (X : World) => implLetterOk_any e0 p q n0 c n1 d X (by omega)
  go_enter Try.func5, Try.ntmps5
  go_wp2_with (rw [hW.out])
  obtain ⟨B0, hB0⟩ : ∃ B0, B0 = w.heap.size := ⟨_, rfl⟩
  rw [← hB0] at CB la0 la1 la2 ⊢
  clear hB0
  refine (szLetter_small e0 p0 p1 n0 q0 n1 q1 _ hs).mono ?_
  clear la0 la1 la2
  rintro e w1 ⟨left, hl0, hl1, rfl, b1⟩
  have hl2 : ¬ left < 0 := by omega
  have k1 : Below W.heap.size W w1 := below_on (Below.refl _ _) b1
  have z1 := b1.size
  have la0 : w1.cell? ⟨B0, 0, none⟩ = some (.int .i64 e0) := ((CB.on k1).2 0).1
  have la1 : w1.cell? ⟨B0, 1, none⟩ = some (.slice p0 n0 q0) := ((CB.on k1).2 1).1
  have la2 : w1.cell? ⟨B0, 2, none⟩ = some (.slice p1 n1 q1) := ((CB.on k1).2 2).1
  go_wp2_with (fail)
  refine (toLetter_own e0 p0 p1 n0 q0 n1 q1 xs0 xs1 _ hn0 hn1 hx0 hx1 (in_below h0 k1) (in_below h1 k1)).mono ?_
  rintro e w2 ⟨pr1a, cr1a, pr1b, cr1b, midr1, rfl, r1a, r1b, hmr1, b2⟩
  have k2 : Below W.heap.size W w2 := below_on k1 b2
  have z2 := b2.size
  clear la0 la1 la2
  go_wp2_with (fail)
  refine (specLetterOk_any e0 pr1a pr1b n0 cr1a n1 cr1b _ (by omega)).mono ?_
  rintro e w3 ⟨rfl, b3⟩
  have k3 : Below W.heap.size W w3 := below_on k2 b3
  have z3 := b3.size
  replace r1a := r1a.on b3
  replace r1b := r1b.on b3
  generalize decide (letOk e0 n0 n1) = R at CI ⊢
  have la0 : w3.cell? ⟨B0, 0, none⟩ = some (.int .i64 e0) := ((CB.on k3).2 0).1
  have la1 : w3.cell? ⟨B0, 1, none⟩ = some (.slice p0 n0 q0) := ((CB.on k3).2 1).1
  have la2 : w3.cell? ⟨B0, 2, none⟩ = some (.slice p1 n1 q1) := ((CB.on k3).2 2).1
  go_wp2_with (fail)
  refine (toLetter_own e0 p0 p1 n0 q0 n1 q1 xs0 xs1 _ hn0 hn1 hx0 hx1 (in_below h0 k3) (in_below h1 k3)).mono ?_
  rintro e w4 ⟨pr2a, cr2a, pr2b, cr2b, midr2, rfl, r2a, r2b, hmr2, b4⟩
  have k4 : Below W.heap.size W w4 := below_on k3 b4
  have z4 := b4.size
  replace r1a := r1a.on b4
  replace r1b := r1b.on b4
  clear la0 la1 la2
  obtain ⟨w5, hw5⟩ : ∃ X, X = w4.alloc (.cells #[.int .i64 e0, .slice pr2a n0 cr2a, .slice pr2b n1 cr2b] 33) := ⟨_, rfl⟩
  have b5 : Below w4.heap.size w4 w5 := by rw [hw5]; exact made_below _ _ (Below.refl _ _)
  have CX : Cells w5 w4.heap.size #[.int .i64 e0, .slice pr2a n0 cr2a, .slice pr2b n1 cr2b] := by rw [hw5]; exact Cells.made _ _ _
  replace hw5 : Hid (w4.alloc (.cells #[.int .i64 e0, .slice pr2a n0 cr2a, .slice pr2b n1 cr2b] 33) = w5) := hw5.symm
  have k5 : Below W.heap.size W w5 := below_on k4 b5
  have z5 := b5.size
  replace r1a := r1a.on b5
  replace r1b := r1b.on b5
  replace r2a := r2a.on b5
  replace r2b := r2b.on b5
  have lx0 : w5.cell? ⟨w4.heap.size, 0, none⟩ = some (.int .i64 e0) := (CX.2 0).1
  have lx1 : w5.cell? ⟨w4.heap.size, 1, none⟩ = some (.slice pr2a n0 cr2a) := (CX.2 1).1
  have lx2 : w5.cell? ⟨w4.heap.size, 2, none⟩ = some (.slice pr2b n1 cr2b) := (CX.2 2).1
  go_wp2_with (rw [hw5.out])
  clear hw5
  obtain ⟨B1, hB1⟩ : ∃ B1, B1 = w4.heap.size := ⟨_, rfl⟩
  rw [← hB1] at CX lx0 lx1 lx2 ⊢
  clear hB1
  refine (CI pr2a pr2b cr2a cr2b _).mono ?_
  rintro e w6 ⟨rfl, b6⟩
  have k6 : Below W.heap.size W w6 := below_on k5 b6
  have z6 := b6.size
  replace r1a := r1a.on b6
  replace r1b := r1b.on b6
  replace r2a := r2a.on b6
  replace r2b := r2b.on b6
  replace CX := CX.on b6
  cases R
  · clear lx0 lx1 lx2
    have HK : ∀ w', Below w6.heap.size w6 w' → w'.cell? ⟨B0, 0, none⟩ = some (.int .i64 e0) ∧ w'.cell? ⟨B0, 1, none⟩ = some (.slice p0 n0 q0) ∧ w'.cell? ⟨B0, 2, none⟩ = some (.slice p1 n1 q1) ∧ w'.cell? ⟨B1, 0, none⟩ = some (.int .i64 e0) ∧ w'.cell? ⟨B1, 1, none⟩ = some (.slice pr2a n0 cr2a) ∧ w'.cell? ⟨B1, 2, none⟩ = some (.slice pr2b n1 cr2b) := fun w' hX => ⟨(((CB.on k6).on hX).2 0).1, (((CB.on k6).on hX).2 1).1, (((CB.on k6).on hX).2 2).1, ((CX.on hX).2 0).1, ((CX.on hX).2 1).1, ((CX.on hX).2 2).1⟩
    have bdr : Below w6.heap.size w6 w6.drew := (Below.refl _ _).drew
    have kdr := below_on k6 bdr
    go_wp2_with (fail)
    go_region_held3 (fun w' => w'.cell? ⟨B0, 0, none⟩ = some (.int .i64 e0) ∧ w'.cell? ⟨B0, 1, none⟩ = some (.slice p0 n0 q0) ∧ w'.cell? ⟨B0, 2, none⟩ = some (.slice p1 n1 q1) ∧ w'.cell? ⟨B1, 0, none⟩ = some (.int .i64 e0) ∧ w'.cell? ⟨B1, 1, none⟩ = some (.slice pr2a n0 cr2a) ∧ w'.cell? ⟨B1, 2, none⟩ = some (.slice pr2b n1 cr2b)) (exact HK _ (by repeat (with_reducible (first | exact Below.refl _ _ | refine below_drewL ?_ | refine below_on ?_ bq1 | refine below_on ?_ bq2)))) (first | (go_at_call 22; refine (toLetter_own e0 p0 p1 n0 q0 n1 q1 xs0 xs1 _ hn0 hn1 hx0 hx1 (in_below h0 kdr) (in_below h1 kdr)).mono ?_; rintro z wq ⟨pqa, cqa, pqb, cqb, midq, rfl, rqa, rqb, hmq, bq1⟩) | (go_at_call 24; refine (eqLetter_any e0 e0 pr2a pr2b _ _ n0 cr2a n1 cr2b n0 _ n1 _ xs0 xs1 xs0 xs1 _ (by omega) (by omega) r2a.len r2b.len rqa.len rqb.len ((r2a.on bdr).on bq1).bytes ((r2b.on bdr).on bq1).bytes rqa.bytes rqb.bytes).mono ?_; rintro z w7 ⟨rfl, bq2⟩))
    have b7 : Below w6.heap.size w6 w7 := below_on (below_on bdr bq1) bq2
    clear bq1 bq2 bdr kdr HK rqa rqb hmq
    have k7 : Below W.heap.size W w7 := below_on k6 b7
    have z7 := b7.size
    replace r1a := r1a.on b7
    replace r1b := r1b.on b7
    replace r2a := r2a.on b7
    replace r2b := r2b.on b7
    replace CX := CX.on b7
    have lx0 : w7.cell? ⟨B1, 0, none⟩ = some (.int .i64 e0) := (CX.2 0).1
    have lx1 : w7.cell? ⟨B1, 1, none⟩ = some (.slice pr2a n0 cr2a) := (CX.2 1).1
    have lx2 : w7.cell? ⟨B1, 2, none⟩ = some (.slice pr2b n1 cr2b) := (CX.2 2).1
    go_wp2_with (fail)
    go_ret
    exact ⟨rfl, below_on kA k7⟩
  · clear lx0 lx1 lx2
    have HK : ∀ w', Below w6.heap.size w6 w' → w'.cell? ⟨B0, 0, none⟩ = some (.int .i64 e0) ∧ w'.cell? ⟨B0, 1, none⟩ = some (.slice p0 n0 q0) ∧ w'.cell? ⟨B0, 2, none⟩ = some (.slice p1 n1 q1) ∧ w'.cell? ⟨B1, 0, none⟩ = some (.int .i64 e0) ∧ w'.cell? ⟨B1, 1, none⟩ = some (.slice pr2a n0 cr2a) ∧ w'.cell? ⟨B1, 2, none⟩ = some (.slice pr2b n1 cr2b) := fun w' hX => ⟨(((CB.on k6).on hX).2 0).1, (((CB.on k6).on hX).2 1).1, (((CB.on k6).on hX).2 2).1, ((CX.on hX).2 0).1, ((CX.on hX).2 1).1, ((CX.on hX).2 2).1⟩
    have bdr : Below w6.heap.size w6 w6.drew := (Below.refl _ _).drew
    have kdr := below_on k6 bdr
    go_wp2_with (fail)
    go_region_held3 (fun w' => w'.cell? ⟨B0, 0, none⟩ = some (.int .i64 e0) ∧ w'.cell? ⟨B0, 1, none⟩ = some (.slice p0 n0 q0) ∧ w'.cell? ⟨B0, 2, none⟩ = some (.slice p1 n1 q1) ∧ w'.cell? ⟨B1, 0, none⟩ = some (.int .i64 e0) ∧ w'.cell? ⟨B1, 1, none⟩ = some (.slice pr2a n0 cr2a) ∧ w'.cell? ⟨B1, 2, none⟩ = some (.slice pr2b n1 cr2b)) (exact HK _ (by repeat (with_reducible (first | exact Below.refl _ _ | refine below_drewL ?_ | refine below_on ?_ bq1 | refine below_on ?_ bq2)))) (first | (go_at_call 22; refine (toLetter_own e0 p0 p1 n0 q0 n1 q1 xs0 xs1 _ hn0 hn1 hx0 hx1 (in_below h0 kdr) (in_below h1 kdr)).mono ?_; rintro z wq ⟨pqa, cqa, pqb, cqb, midq, rfl, rqa, rqb, hmq, bq1⟩) | (go_at_call 24; refine (eqLetter_any e0 e0 pr2a pr2b _ _ n0 cr2a n1 cr2b n0 _ n1 _ xs0 xs1 xs0 xs1 _ (by omega) (by omega) r2a.len r2b.len rqa.len rqb.len ((r2a.on bdr).on bq1).bytes ((r2b.on bdr).on bq1).bytes rqa.bytes rqb.bytes).mono ?_; rintro z w7 ⟨rfl, bq2⟩))
    have b7 : Below w6.heap.size w6 w7 := below_on (below_on bdr bq1) bq2
    clear bq1 bq2 bdr kdr HK rqa rqb hmq
    have k7 : Below W.heap.size W w7 := below_on k6 b7
    have z7 := b7.size
    replace r1a := r1a.on b7
    replace r1b := r1b.on b7
    replace r2a := r2a.on b7
    replace r2b := r2b.on b7
    replace CX := CX.on b7
    have lx0 : w7.cell? ⟨B1, 0, none⟩ = some (.int .i64 e0) := (CX.2 0).1
    have lx1 : w7.cell? ⟨B1, 1, none⟩ = some (.slice pr2a n0 cr2a) := (CX.2 1).1
    have lx2 : w7.cell? ⟨B1, 2, none⟩ = some (.slice pr2b n1 cr2b) := (CX.2 2).1
    go_wp2_with (fail)
    go_ret
    exact ⟨rfl, below_on kA k7⟩

theorem letterOk_law (e0 : Int) (p0 p1 : Option Addr) (n0 q0 n1 q1 : Nat) (xs0 xs1 : List Int) (w : World) (hl0 : n0 ≤ 9223372036854775807) (hl1 : n1 ≤ 9223372036854775807) (hx0 : xs0.length = n0) (hx1 : xs1.length = n1) (h0 : BytesIn w p0 n0 xs0) (h1 : BytesIn w p1 n1 xs1) :
    Calls Try.prog 5 #[.agg #[.int .i64 e0, .slice p0 n0 q0, .slice p1 n1 q1]] w fun e w' => e = .returned (.bool true) ∧ Below w.heap.size w w' := by
  by_cases hs : n0 + n1 ≤ 1048576
  · exact letterOk_small e0 p0 p1 n0 q0 n1 q1 xs0 xs1 w hs hx0 hx1 h0 h1
  · have C := fun X => szLetter_great e0 p0 p1 n0 q0 n1 q1 X hl0 hl1 hs
    have kA : ∀ o, Below w.heap.size w (w.alloc o) := fun o => made_below _ _ (Below.refl _ _)
    clear h0 h1 hx0 hx1
    go_enter Try.func5, Try.ntmps5
    go_wp2_with (fail)
    refine (C _).mono ?_
    rintro e w1 ⟨rfl, b1⟩
    go_wp2_with (fail)
    go_ret
    exact ⟨rfl, below_on (kA _) b1⟩

end Go.Proofs.Ytaijemajolgmfaa
