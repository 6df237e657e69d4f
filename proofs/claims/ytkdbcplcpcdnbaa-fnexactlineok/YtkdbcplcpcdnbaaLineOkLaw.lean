/-
  FnExactLineOk returns true for any line, and writes nothing that was there; conditions: lengths that there can be.
-/
import Derived.Test.YtkdbcplcpcdnbaaLine
import Derived.Test.YtkdbcplcpcdnbaaImplLineOk
import Derived.Deep.RegionHeld3
namespace Go.Proofs.Ytkdbcplcpcdnbaa
open Go.RowKit
set_option maxRecDepth 100000

set_option maxHeartbeats 8000000 in
theorem lineOk_small (k0 : Int) (s0 : ByteArray) (t0 d0 : Int) (p0 : Option Addr) (n0 q0 : Nat) (xs0 : List Int) (w : World) (hs : s0.size + n0 ≤ 1048576) (hx0 : xs0.length = n0) (h0 : BytesIn w p0 n0 xs0) :
    Calls Try.prog 4 #[.agg #[.int .i64 k0, .string s0, .int .i64 t0, .int .i64 d0, .slice p0 n0 q0]] w fun e w' => e = .returned (.bool true) ∧ Below w.heap.size w w' := by
  have hn0 : n0 ≤ 1048576 := by omega
  have hsz : s0.size ≤ 1048576 := by omega
  obtain ⟨W, hW⟩ : ∃ W, W = w.alloc (.cells #[.int .i64 k0, .string s0, .int .i64 t0, .int .i64 d0, .slice p0 n0 q0] 46) := ⟨_, rfl⟩
  have kA : Below w.heap.size w W := by rw [hW]; exact made_below _ _ (Below.refl _ _)
  have CB : Cells W w.heap.size #[.int .i64 k0, .string s0, .int .i64 t0, .int .i64 d0, .slice p0 n0 q0] := by rw [hW]; exact Cells.made _ _ _
  have la0 : W.cell? ⟨w.heap.size, 0, none⟩ = some (.int .i64 k0) := (CB.2 0).1
  have la1 : W.cell? ⟨w.heap.size, 1, none⟩ = some (.string s0) := (CB.2 1).1
  have la2 : W.cell? ⟨w.heap.size, 2, none⟩ = some (.int .i64 t0) := (CB.2 2).1
  have la3 : W.cell? ⟨w.heap.size, 3, none⟩ = some (.int .i64 d0) := (CB.2 3).1
  have la4 : W.cell? ⟨w.heap.size, 4, none⟩ = some (.slice p0 n0 q0) := (CB.2 4).1
  replace h0 := in_below h0 kA
  replace hW : Hid (w.alloc (.cells #[.int .i64 k0, .string s0, .int .i64 t0, .int .i64 d0, .slice p0 n0 q0] 46) = W) := hW.symm
  have CI := fun (p : Option Addr) (c : Nat) (X : World) (h : BytesIn X p n0 xs0) => implLineOk_any k0 s0 t0 d0 p n0 c xs0 X hsz hx0 h
  go_enter Try.func4, Try.ntmps4
  go_wp2_with (rw [hW.out])
  obtain ⟨B0, hB0⟩ : ∃ B0, B0 = w.heap.size := ⟨_, rfl⟩
  rw [← hB0] at CB la0 la1 la2 la3 la4 ⊢
  clear hB0
  refine (szLine_any k0 s0 t0 d0 p0 n0 q0 1048576 _ (by omega) (by omega) (by omega)).mono ?_
  clear la0 la1 la2 la3 la4
  rintro e w1 ⟨rfl, b1⟩
  obtain ⟨left, hleft⟩ : ∃ l : Int, l = szI s0 n0 1048576 := ⟨_, rfl⟩
  rw [← hleft]
  have hl2 : ¬ left < 0 := by rw [hleft, szI, if_pos (by omega)]; omega
  clear hleft
  have k1 : Below W.heap.size W w1 := b1
  have la0 : w1.cell? ⟨B0, 0, none⟩ = some (.int .i64 k0) := ((CB.on k1).2 0).1
  have la1 : w1.cell? ⟨B0, 1, none⟩ = some (.string s0) := ((CB.on k1).2 1).1
  have la2 : w1.cell? ⟨B0, 2, none⟩ = some (.int .i64 t0) := ((CB.on k1).2 2).1
  have la3 : w1.cell? ⟨B0, 3, none⟩ = some (.int .i64 d0) := ((CB.on k1).2 3).1
  have la4 : w1.cell? ⟨B0, 4, none⟩ = some (.slice p0 n0 q0) := ((CB.on k1).2 4).1
  go_wp2_with (fail)
  refine (toLine_own k0 s0 t0 d0 p0 n0 q0 xs0 _ hn0 hx0 (in_below h0 k1)).mono ?_
  rintro e w2 ⟨pr1, cr1, rfl, r1, b2⟩
  have k2 := below_on k1 b2
  clear la0 la1 la2 la3 la4
  go_wp2_with (fail)
  refine (specLineOk_any k0 s0 t0 d0 pr1 n0 cr1 xs0 _ hsz hn0 hx0 r1.bytes).mono ?_
  rintro e w3 ⟨rfl, b3⟩
  have k3 := below_on k2 b3
  clear r1
  generalize lnB k0 s0 t0 d0 n0 = R at CI ⊢
  have la0 : w3.cell? ⟨B0, 0, none⟩ = some (.int .i64 k0) := ((CB.on k3).2 0).1
  have la1 : w3.cell? ⟨B0, 1, none⟩ = some (.string s0) := ((CB.on k3).2 1).1
  have la2 : w3.cell? ⟨B0, 2, none⟩ = some (.int .i64 t0) := ((CB.on k3).2 2).1
  have la3 : w3.cell? ⟨B0, 3, none⟩ = some (.int .i64 d0) := ((CB.on k3).2 3).1
  have la4 : w3.cell? ⟨B0, 4, none⟩ = some (.slice p0 n0 q0) := ((CB.on k3).2 4).1
  go_wp2_with (fail)
  refine (toLine_own k0 s0 t0 d0 p0 n0 q0 xs0 _ hn0 hx0 (in_below h0 k3)).mono ?_
  rintro e w4 ⟨pr2, cr2, rfl, r2, b4⟩
  have k4 := below_on k3 b4
  clear la0 la1 la2 la3 la4
  obtain ⟨w5, hw5⟩ : ∃ X, X = w4.alloc (.cells #[.int .i64 k0, .string s0, .int .i64 t0, .int .i64 d0, .slice pr2 n0 cr2] 49) := ⟨_, rfl⟩
  have b5 : Below w4.heap.size w4 w5 := by rw [hw5]; exact made_below _ _ (Below.refl _ _)
  have CX : Cells w5 w4.heap.size #[.int .i64 k0, .string s0, .int .i64 t0, .int .i64 d0, .slice pr2 n0 cr2] := by rw [hw5]; exact Cells.made _ _ _
  replace hw5 : Hid (w4.alloc (.cells #[.int .i64 k0, .string s0, .int .i64 t0, .int .i64 d0, .slice pr2 n0 cr2] 49) = w5) := hw5.symm
  have k5 := below_on k4 b5
  replace r2 := r2.on b5
  have lx0 : w5.cell? ⟨w4.heap.size, 0, none⟩ = some (.int .i64 k0) := (CX.2 0).1
  have lx1 : w5.cell? ⟨w4.heap.size, 1, none⟩ = some (.string s0) := (CX.2 1).1
  have lx2 : w5.cell? ⟨w4.heap.size, 2, none⟩ = some (.int .i64 t0) := (CX.2 2).1
  have lx3 : w5.cell? ⟨w4.heap.size, 3, none⟩ = some (.int .i64 d0) := (CX.2 3).1
  have lx4 : w5.cell? ⟨w4.heap.size, 4, none⟩ = some (.slice pr2 n0 cr2) := (CX.2 4).1
  go_wp2_with (rw [hw5.out])
  clear hw5
  obtain ⟨B1, hB1⟩ : ∃ B1, B1 = w4.heap.size := ⟨_, rfl⟩
  rw [← hB1] at CX lx0 lx1 lx2 lx3 lx4 ⊢
  clear hB1
  refine (CI pr2 cr2 _ r2.bytes).mono ?_
  rintro e w6 ⟨rfl, b6⟩
  have k6 := below_on k5 b6
  replace r2 := r2.on b6
  replace CX := CX.on b6
  clear lx0 lx1 lx2 lx3 lx4
  cases R
  · have HK : ∀ w', Below w6.heap.size w6 w' → w'.cell? ⟨B0, 0, none⟩ = some (.int .i64 k0) ∧ w'.cell? ⟨B0, 1, none⟩ = some (.string s0) ∧ w'.cell? ⟨B0, 2, none⟩ = some (.int .i64 t0) ∧ w'.cell? ⟨B0, 3, none⟩ = some (.int .i64 d0) ∧ w'.cell? ⟨B0, 4, none⟩ = some (.slice p0 n0 q0) ∧ w'.cell? ⟨B1, 0, none⟩ = some (.int .i64 k0) ∧ w'.cell? ⟨B1, 1, none⟩ = some (.string s0) ∧ w'.cell? ⟨B1, 2, none⟩ = some (.int .i64 t0) ∧ w'.cell? ⟨B1, 3, none⟩ = some (.int .i64 d0) ∧ w'.cell? ⟨B1, 4, none⟩ = some (.slice pr2 n0 cr2) := fun w' hX => ⟨(((CB.on k6).on hX).2 0).1, (((CB.on k6).on hX).2 1).1, (((CB.on k6).on hX).2 2).1, (((CB.on k6).on hX).2 3).1, (((CB.on k6).on hX).2 4).1, ((CX.on hX).2 0).1, ((CX.on hX).2 1).1, ((CX.on hX).2 2).1, ((CX.on hX).2 3).1, ((CX.on hX).2 4).1⟩
    have bdr : Below w6.heap.size w6 w6.drew := (Below.refl _ _).drew
    have kdr := below_on k6 bdr
    go_wp2_with (fail)
    go_region_held3 (fun w' => w'.cell? ⟨B0, 0, none⟩ = some (.int .i64 k0) ∧ w'.cell? ⟨B0, 1, none⟩ = some (.string s0) ∧ w'.cell? ⟨B0, 2, none⟩ = some (.int .i64 t0) ∧ w'.cell? ⟨B0, 3, none⟩ = some (.int .i64 d0) ∧ w'.cell? ⟨B0, 4, none⟩ = some (.slice p0 n0 q0) ∧ w'.cell? ⟨B1, 0, none⟩ = some (.int .i64 k0) ∧ w'.cell? ⟨B1, 1, none⟩ = some (.string s0) ∧ w'.cell? ⟨B1, 2, none⟩ = some (.int .i64 t0) ∧ w'.cell? ⟨B1, 3, none⟩ = some (.int .i64 d0) ∧ w'.cell? ⟨B1, 4, none⟩ = some (.slice pr2 n0 cr2)) (exact HK _ (by repeat (with_reducible (first | exact Below.refl _ _ | refine below_drewL ?_ | refine below_on ?_ bq1 | refine below_on ?_ bq2)))) (first | (go_at_call 29; refine (toLine_own k0 s0 t0 d0 p0 n0 q0 xs0 _ hn0 hx0 (in_below h0 kdr)).mono ?_; rintro z wq ⟨pq, cq, rfl, rq, bq1⟩) | (go_at_call 31; refine (eqLine_any k0 k0 s0 s0 t0 t0 d0 d0 pr2 _ n0 cr2 n0 _ xs0 xs0 _ (by omega) r2.len rq.len ((r2.on bdr).on bq1).bytes rq.bytes).mono ?_; rintro z w7 ⟨rfl, bq2⟩))
    have b7 : Below w6.heap.size w6 w7 := below_on (below_on bdr bq1) bq2
    have k7 := below_on k6 b7
    clear bq1 bq2 bdr kdr HK rq b7
    go_wp2_with (fail)
    go_ret
    exact ⟨rfl, below_on kA k7⟩
  · have HK : ∀ w', Below w6.heap.size w6 w' → w'.cell? ⟨B0, 0, none⟩ = some (.int .i64 k0) ∧ w'.cell? ⟨B0, 1, none⟩ = some (.string s0) ∧ w'.cell? ⟨B0, 2, none⟩ = some (.int .i64 t0) ∧ w'.cell? ⟨B0, 3, none⟩ = some (.int .i64 d0) ∧ w'.cell? ⟨B0, 4, none⟩ = some (.slice p0 n0 q0) ∧ w'.cell? ⟨B1, 0, none⟩ = some (.int .i64 k0) ∧ w'.cell? ⟨B1, 1, none⟩ = some (.string s0) ∧ w'.cell? ⟨B1, 2, none⟩ = some (.int .i64 t0) ∧ w'.cell? ⟨B1, 3, none⟩ = some (.int .i64 d0) ∧ w'.cell? ⟨B1, 4, none⟩ = some (.slice pr2 n0 cr2) := fun w' hX => ⟨(((CB.on k6).on hX).2 0).1, (((CB.on k6).on hX).2 1).1, (((CB.on k6).on hX).2 2).1, (((CB.on k6).on hX).2 3).1, (((CB.on k6).on hX).2 4).1, ((CX.on hX).2 0).1, ((CX.on hX).2 1).1, ((CX.on hX).2 2).1, ((CX.on hX).2 3).1, ((CX.on hX).2 4).1⟩
    have bdr : Below w6.heap.size w6 w6.drew := (Below.refl _ _).drew
    have kdr := below_on k6 bdr
    go_wp2_with (fail)
    go_region_held3 (fun w' => w'.cell? ⟨B0, 0, none⟩ = some (.int .i64 k0) ∧ w'.cell? ⟨B0, 1, none⟩ = some (.string s0) ∧ w'.cell? ⟨B0, 2, none⟩ = some (.int .i64 t0) ∧ w'.cell? ⟨B0, 3, none⟩ = some (.int .i64 d0) ∧ w'.cell? ⟨B0, 4, none⟩ = some (.slice p0 n0 q0) ∧ w'.cell? ⟨B1, 0, none⟩ = some (.int .i64 k0) ∧ w'.cell? ⟨B1, 1, none⟩ = some (.string s0) ∧ w'.cell? ⟨B1, 2, none⟩ = some (.int .i64 t0) ∧ w'.cell? ⟨B1, 3, none⟩ = some (.int .i64 d0) ∧ w'.cell? ⟨B1, 4, none⟩ = some (.slice pr2 n0 cr2)) (exact HK _ (by repeat (with_reducible (first | exact Below.refl _ _ | refine below_drewL ?_ | refine below_on ?_ bq1 | refine below_on ?_ bq2)))) (first | (go_at_call 29; refine (toLine_own k0 s0 t0 d0 p0 n0 q0 xs0 _ hn0 hx0 (in_below h0 kdr)).mono ?_; rintro z wq ⟨pq, cq, rfl, rq, bq1⟩) | (go_at_call 31; refine (eqLine_any k0 k0 s0 s0 t0 t0 d0 d0 pr2 _ n0 cr2 n0 _ xs0 xs0 _ (by omega) r2.len rq.len ((r2.on bdr).on bq1).bytes rq.bytes).mono ?_; rintro z w7 ⟨rfl, bq2⟩))
    have b7 : Below w6.heap.size w6 w7 := below_on (below_on bdr bq1) bq2
    have k7 := below_on k6 b7
    clear bq1 bq2 bdr kdr HK rq b7
    go_wp2_with (fail)
    go_ret
    exact ⟨rfl, below_on kA k7⟩

theorem lineOk_law (k0 : Int) (s0 : ByteArray) (t0 d0 : Int) (p0 : Option Addr) (n0 q0 : Nat) (xs0 : List Int) (w : World) (hl0 : s0.size ≤ 9223372036854775807) (hl1 : n0 ≤ 9223372036854775807) (hx0 : xs0.length = n0) (h0 : BytesIn w p0 n0 xs0) :
    Calls Try.prog 4 #[.agg #[.int .i64 k0, .string s0, .int .i64 t0, .int .i64 d0, .slice p0 n0 q0]] w fun e w' => e = .returned (.bool true) ∧ Below w.heap.size w w' := by
  by_cases hs : s0.size + n0 ≤ 1048576
  · exact lineOk_small k0 s0 t0 d0 p0 n0 q0 xs0 w hs hx0 h0
  · have C := fun X => szLine_any k0 s0 t0 d0 p0 n0 q0 1048576 X hl0 hl1 (by omega)
    have e1 : szI s0 n0 1048576 = -1 := by unfold szI; rw [if_neg (by omega)]
    rw [e1] at C
    have kA : ∀ o, Below w.heap.size w (w.alloc o) := fun o => made_below _ _ (Below.refl _ _)
    clear h0 hx0 e1 hs
    go_enter Try.func4, Try.ntmps4
    go_wp2_with (fail)
    refine (C _).mono ?_
    rintro e w1 ⟨rfl, b1⟩
    go_wp2_with (fail)
    go_ret
    exact ⟨rfl, below_on (kA _) b1⟩

end Go.Proofs.Ytkdbcplcpcdnbaa
