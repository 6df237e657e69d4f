/-
  FnExactLetterBytes returns true for any letter, and writes nothing that was there; conditions: lengths that there can be.
-/
import Derived.Test.YtaijemajolgmfaaImplLetterC
namespace Go.Proofs.Ytaijemajolgmfaa
open Go.RowKit

set_option maxHeartbeats 8000000 in
theorem letterBytes_small (e0 : Int) (p0 p1 : Option Addr) (n0 q0 n1 q1 : Nat) (xs0 xs1 : List Int) (w : World) (hs : n0 + n1 ≤ 1048576) (hx0 : xs0.length = n0) (hx1 : xs1.length = n1) (h0 : BytesIn w p0 n0 xs0) (h1 : BytesIn w p1 n1 xs1) :
    Calls Try.prog 6 #[.agg #[.int .i64 e0, .slice p0 n0 q0, .slice p1 n1 q1]] w fun e w' => e = .returned (.bool true) ∧ Below w.heap.size w w' := by
  have hn0 : n0 ≤ 1048576 := by omega
  have hn1 : n1 ≤ 1048576 := by omega
  obtain ⟨W, hW⟩ : ∃ W, W = w.alloc (.cells #[.int .i64 e0, .slice p0 n0 q0, .slice p1 n1 q1] 30) := ⟨_, rfl⟩
  have kA : Below w.heap.size w W := by rw [hW]; exact made_below _ _ (Below.refl _ _)
  have CB : Cells W w.heap.size #[.int .i64 e0, .slice p0 n0 q0, .slice p1 n1 q1] := by rw [hW]; exact Cells.made _ _ _
  have la0 : W.cell? ⟨w.heap.size, 0, none⟩ = some (.int .i64 e0) := (CB.2 0).1
  have la1 : W.cell? ⟨w.heap.size, 1, none⟩ = some (.slice p0 n0 q0) := (CB.2 1).1
  have la2 : W.cell? ⟨w.heap.size, 2, none⟩ = some (.slice p1 n1 q1) := (CB.2 2).1
  replace h0 := in_below h0 kA
  replace h1 := in_below h1 kA
  replace hW : Hid (w.alloc (.cells #[.int .i64 e0, .slice p0 n0 q0, .slice p1 n1 q1] 30) = W) := hW.symm
  have hpb := lbN_le e0 n0 n1
  go_enter Try.func6, Try.ntmps6
  go_wp2_with (rw [hW.out])
  obtain ⟨B0, hB0⟩ : ∃ B0, B0 = w.heap.size := ⟨_, rfl⟩
  rw [← hB0] at CB la0 la1 la2 ⊢
  clear hB0
  refine (szLetter_small e0 p0 p1 n0 q0 n1 q1 _ hs).mono ?_
  clear la0 la1 la2
  rintro e w1 ⟨left, hl0, hl1, rfl, b1⟩
  have hl2 : ¬ left < 0 := by omega
  have k1 : Below W.heap.size W w1 := below_on (Below.refl _ _) b1
  have z1 := b1.size
  have la0 : w1.cell? ⟨B0, 0, none⟩ = some (.int .i64 e0) := ((CB.on k1).2 0).1
  have la1 : w1.cell? ⟨B0, 1, none⟩ = some (.slice p0 n0 q0) := ((CB.on k1).2 1).1
  have la2 : w1.cell? ⟨B0, 2, none⟩ = some (.slice p1 n1 q1) := ((CB.on k1).2 2).1
  go_wp2_with (fail)
  refine (toLetter_own e0 p0 p1 n0 q0 n1 q1 xs0 xs1 _ hn0 hn1 hx0 hx1 (in_below h0 k1) (in_below h1 k1)).mono ?_
  rintro e w2 ⟨pr1a, cr1a, pr1b, cr1b, midr1, rfl, r1a, r1b, hmr1, b2⟩
  have k2 : Below W.heap.size W w2 := below_on k1 b2
  have z2 := b2.size
  clear la0 la1 la2
  go_wp2_with (fail)
  refine (specLetterBytes_any e0 pr1a pr1b n0 cr1a n1 cr1b xs0 xs1 _ (by omega) r1a.len r1b.len r1a.bytes r1b.bytes).mono ?_
  rintro e w3 ⟨pr2, cr2, rfl, r2, b3⟩
  have k3 : Below W.heap.size W w3 := below_on k2 b3
  have z3 := b3.size
  replace r1a := r1a.on b3
  replace r1b := r1b.on b3
  have la0 : w3.cell? ⟨B0, 0, none⟩ = some (.int .i64 e0) := ((CB.on k3).2 0).1
  have la1 : w3.cell? ⟨B0, 1, none⟩ = some (.slice p0 n0 q0) := ((CB.on k3).2 1).1
  have la2 : w3.cell? ⟨B0, 2, none⟩ = some (.slice p1 n1 q1) := ((CB.on k3).2 2).1
  go_wp2_with (fail)
  refine (toLetter_own e0 p0 p1 n0 q0 n1 q1 xs0 xs1 _ hn0 hn1 hx0 hx1 (in_below h0 k3) (in_below h1 k3)).mono ?_
  rintro e w4 ⟨pr3a, cr3a, pr3b, cr3b, midr3, rfl, r3a, r3b, hmr3, b4⟩
  have k4 : Below W.heap.size W w4 := below_on k3 b4
  have z4 := b4.size
  replace r1a := r1a.on b4
  replace r1b := r1b.on b4
  replace r2 := r2.on b4
  clear la0 la1 la2
  obtain ⟨w5, hw5⟩ : ∃ X, X = w4.alloc (.cells #[.int .i64 e0, .slice pr3a n0 cr3a, .slice pr3b n1 cr3b] 33) := ⟨_, rfl⟩
  have b5 : Below w4.heap.size w4 w5 := by rw [hw5]; exact made_below _ _ (Below.refl _ _)
  have CX : Cells w5 w4.heap.size #[.int .i64 e0, .slice pr3a n0 cr3a, .slice pr3b n1 cr3b] := by rw [hw5]; exact Cells.made _ _ _
  replace hw5 : Hid (w4.alloc (.cells #[.int .i64 e0, .slice pr3a n0 cr3a, .slice pr3b n1 cr3b] 33) = w5) := hw5.symm
  have k5 : Below W.heap.size W w5 := below_on k4 b5
  have z5 := b5.size
  replace r1a := r1a.on b5
  replace r1b := r1b.on b5
  replace r2 := r2.on b5
  replace r3a := r3a.on b5
  replace r3b := r3b.on b5
  have lx0 : w5.cell? ⟨w4.heap.size, 0, none⟩ = some (.int .i64 e0) := (CX.2 0).1
  have lx1 : w5.cell? ⟨w4.heap.size, 1, none⟩ = some (.slice pr3a n0 cr3a) := (CX.2 1).1
  have lx2 : w5.cell? ⟨w4.heap.size, 2, none⟩ = some (.slice pr3b n1 cr3b) := (CX.2 2).1
  go_wp2_with (rw [hw5.out])
  clear hw5
  obtain ⟨B1, hB1⟩ : ∃ B1, B1 = w4.heap.size := ⟨_, rfl⟩
  rw [← hB1] at CX lx0 lx1 lx2 ⊢
  clear hB1
  refine (implLetterBytes_any e0 pr3a pr3b n0 cr3a n1 cr3b xs0 xs1 _ (by omega) r3a.len r3b.len r3a.bytes r3b.bytes).mono ?_
  rintro e w6 ⟨pr4, cr4, rfl, r4, b6⟩
  have k6 : Below W.heap.size W w6 := below_on k5 b6
  have z6 := b6.size
  replace r1a := r1a.on b6
  replace r1b := r1b.on b6
  replace r2 := r2.on b6
  replace r3a := r3a.on b6
  replace r3b := r3b.on b6
  replace CX := CX.on b6
  go_wp2_with (fail)
  refine (eqByteS_any pr4 pr2 (lbN e0 n0 n1) (lbN e0 n0 n1) cr4 cr2 (lbL e0 xs0 xs1) (lbL e0 xs0 xs1) _ (by omega) r4.len r2.len r4.bytes r2.bytes).mono ?_
  rintro e w7 ⟨rfl, b7⟩
  have k7 : Below W.heap.size W w7 := below_on k6 b7
  have z7 := b7.size
  replace r1a := r1a.on b7
  replace r1b := r1b.on b7
  replace r2 := r2.on b7
  replace r3a := r3a.on b7
  replace r3b := r3b.on b7
  replace r4 := r4.on b7
  replace CX := CX.on b7
  clear lx0 lx1 lx2
  have HK : ∀ w', Below w7.heap.size w7 w' → w'.cell? ⟨B0, 0, none⟩ = some (.int .i64 e0) ∧ w'.cell? ⟨B0, 1, none⟩ = some (.slice p0 n0 q0) ∧ w'.cell? ⟨B0, 2, none⟩ = some (.slice p1 n1 q1) ∧ w'.cell? ⟨B1, 0, none⟩ = some (.int .i64 e0) ∧ w'.cell? ⟨B1, 1, none⟩ = some (.slice pr3a n0 cr3a) ∧ w'.cell? ⟨B1, 2, none⟩ = some (.slice pr3b n1 cr3b) := fun w' hX => ⟨(((CB.on k7).on hX).2 0).1, (((CB.on k7).on hX).2 1).1, (((CB.on k7).on hX).2 2).1, ((CX.on hX).2 0).1, ((CX.on hX).2 1).1, ((CX.on hX).2 2).1⟩
  have bdr : Below w7.heap.size w7 w7.drew := (Below.refl _ _).drew
  have kdr := below_on k7 bdr
  go_wp2_with (fail)
  go_region_held3 (fun w' => w'.cell? ⟨B0, 0, none⟩ = some (.int .i64 e0) ∧ w'.cell? ⟨B0, 1, none⟩ = some (.slice p0 n0 q0) ∧ w'.cell? ⟨B0, 2, none⟩ = some (.slice p1 n1 q1) ∧ w'.cell? ⟨B1, 0, none⟩ = some (.int .i64 e0) ∧ w'.cell? ⟨B1, 1, none⟩ = some (.slice pr3a n0 cr3a) ∧ w'.cell? ⟨B1, 2, none⟩ = some (.slice pr3b n1 cr3b)) (exact HK _ (by repeat (with_reducible (first | exact Below.refl _ _ | refine below_drewL ?_ | refine below_on ?_ bq1 | refine below_on ?_ bq2)))) (first | (go_at_call 22; refine (toLetter_own e0 p0 p1 n0 q0 n1 q1 xs0 xs1 _ hn0 hn1 hx0 hx1 (in_below h0 kdr) (in_below h1 kdr)).mono ?_; rintro z wq ⟨pqa, cqa, pqb, cqb, midq, rfl, rqa, rqb, hmq, bq1⟩) | (go_at_call 24; refine (eqLetter_any e0 e0 pr3a pr3b _ _ n0 cr3a n1 cr3b n0 _ n1 _ xs0 xs1 xs0 xs1 _ (by omega) (by omega) r3a.len r3b.len rqa.len rqb.len ((r3a.on bdr).on bq1).bytes ((r3b.on bdr).on bq1).bytes rqa.bytes rqb.bytes).mono ?_; rintro z w8 ⟨rfl, bq2⟩))
  have b8 : Below w7.heap.size w7 w8 := below_on (below_on bdr bq1) bq2
  clear bq1 bq2 bdr kdr HK rqa rqb hmq
  have k8 : Below W.heap.size W w8 := below_on k7 b8
  have z8 := b8.size
  replace r1a := r1a.on b8
  replace r1b := r1b.on b8
  replace r2 := r2.on b8
  replace r3a := r3a.on b8
  replace r3b := r3b.on b8
  replace r4 := r4.on b8
  replace CX := CX.on b8
  have lx0 : w8.cell? ⟨B1, 0, none⟩ = some (.int .i64 e0) := (CX.2 0).1
  have lx1 : w8.cell? ⟨B1, 1, none⟩ = some (.slice pr3a n0 cr3a) := (CX.2 1).1
  have lx2 : w8.cell? ⟨B1, 2, none⟩ = some (.slice pr3b n1 cr3b) := (CX.2 2).1
  clear lx0 lx1 lx2
  have lx0 : w8.cell? ⟨B1, 0, none⟩ = some (.int .i64 e0) := (CX.2 0).1
  have lx1 : w8.cell? ⟨B1, 1, none⟩ = some (.slice pr3a n0 cr3a) := (CX.2 1).1
  have lx2 : w8.cell? ⟨B1, 2, none⟩ = some (.slice pr3b n1 cr3b) := (CX.2 2).1
  go_wp2_with (fail)
  clear lx0 lx1 lx2 CX
  refine (markLetter_own _ _ _ _ e0 pr3a pr3b n0 cr3a n1 cr3b xs0 xs1 1 _ (by omega) (by omega) (by omega) (by omega) (by omega) (by omega) r3a r3b).mono ?_
  rintro e w9 ⟨rfl, wa9, wb9, ba9, ga9, gb9, ma9, mb9⟩
  have k9 : Below W.heap.size W w9 := marks_below k8 ba9 ga9 gb9 r3a r3b (by omega) (by omega) (by omega)
  have z9 := marks_size ba9 ga9 gb9
  replace r1a := r1a.past ba9 ga9 gb9 r3a r3b (by omega) (by omega) (by omega)
  replace r1b := r1b.past ba9 ga9 gb9 r3a r3b (by omega) (by omega) (by omega)
  replace r2 := r2.past ba9 ga9 gb9 r3a r3b (by omega) (by omega) (by omega)
  replace r4 := r4.past ba9 ga9 gb9 r3a r3b (by omega) (by omega) (by omega)
  clear r3a r3b ga9 gb9 ba9
  have r3a := ma9
  have r3b := mb9
  clear ma9 mb9
  go_wp2_with (fail)
  refine (eqByteS_any pr4 pr2 (lbN e0 n0 n1) (lbN e0 n0 n1) cr4 cr2 (lbL e0 xs0 xs1) (lbL e0 xs0 xs1) _ (by omega) r4.len r2.len r4.bytes r2.bytes).mono ?_
  rintro e w10 ⟨rfl, b10⟩
  have k10 : Below W.heap.size W w10 := below_on k9 b10
  have z10 := b10.size
  replace r1a := r1a.on b10
  replace r1b := r1b.on b10
  replace r2 := r2.on b10
  replace r3a := r3a.on b10
  replace r3b := r3b.on b10
  replace r4 := r4.on b10
  go_wp2_with (fail)
  refine (markByteS_own _ _ pr4 (lbN e0 n0 n1) cr4 (lbL e0 xs0 xs1) 1 _ (by omega) (by omega) (by omega) r4).mono ?_
  rintro e w11 ⟨rfl, m11, g11⟩
  have k11 : Below W.heap.size W w11 := below_mark k10 g11 r4 (by omega)
  have z11 := g11.size
  replace r1a := r1a.far g11 r4 (by omega)
  replace r1b := r1b.far g11 r4 (by omega)
  replace r2 := r2.far g11 r4 (by omega)
  replace r3a := r3a.far g11 r4 (by omega)
  replace r3b := r3b.far g11 r4 (by omega)
  clear r4 g11
  have r4 := m11
  clear m11
  go_wp2_with (fail)
  refine (heldByteS_any pr4 (lbN e0 n0 n1) cr4 1 _ (by omega) (by omega) (by omega) r4.bytes).mono ?_
  rintro e w12 ⟨rfl, b12⟩
  have k12 : Below W.heap.size W w12 := below_on k11 b12
  have z12 := b12.size
  replace r1a := r1a.on b12
  replace r1b := r1b.on b12
  replace r2 := r2.on b12
  replace r3a := r3a.on b12
  replace r3b := r3b.on b12
  replace r4 := r4.on b12
  have la0 : w12.cell? ⟨B0, 0, none⟩ = some (.int .i64 e0) := ((CB.on k12).2 0).1
  have la1 : w12.cell? ⟨B0, 1, none⟩ = some (.slice p0 n0 q0) := ((CB.on k12).2 1).1
  have la2 : w12.cell? ⟨B0, 2, none⟩ = some (.slice p1 n1 q1) := ((CB.on k12).2 2).1
  go_wp2_with (fail)
  refine (toLetter_own e0 p0 p1 n0 q0 n1 q1 xs0 xs1 _ hn0 hn1 hx0 hx1 (in_below h0 k12) (in_below h1 k12)).mono ?_
  rintro e w13 ⟨pr5a, cr5a, pr5b, cr5b, midr5, rfl, r5a, r5b, hmr5, b13⟩
  have k13 : Below W.heap.size W w13 := below_on k12 b13
  have z13 := b13.size
  replace r1a := r1a.on b13
  replace r1b := r1b.on b13
  replace r2 := r2.on b13
  replace r3a := r3a.on b13
  replace r3b := r3b.on b13
  replace r4 := r4.on b13
  clear la0 la1 la2
  go_wp2_with (fail)
  refine (implLetterBytes_any e0 pr5a pr5b n0 cr5a n1 cr5b xs0 xs1 _ (by omega) r5a.len r5b.len r5a.bytes r5b.bytes).mono ?_
  rintro e w14 ⟨pr6, cr6, rfl, r6, b14⟩
  have k14 : Below W.heap.size W w14 := below_on k13 b14
  have z14 := b14.size
  replace r1a := r1a.on b14
  replace r1b := r1b.on b14
  replace r2 := r2.on b14
  replace r3a := r3a.on b14
  replace r3b := r3b.on b14
  replace r4 := r4.on b14
  replace r5a := r5a.on b14
  replace r5b := r5b.on b14
  go_wp2_with (fail)
  refine (eqByteS_any pr6 pr2 (lbN e0 n0 n1) (lbN e0 n0 n1) cr6 cr2 (lbL e0 xs0 xs1) (lbL e0 xs0 xs1) _ (by omega) r6.len r2.len r6.bytes r2.bytes).mono ?_
  rintro e w15 ⟨rfl, b15⟩
  have k15 : Below W.heap.size W w15 := below_on k14 b15
  have z15 := b15.size
  replace r1a := r1a.on b15
  replace r1b := r1b.on b15
  replace r2 := r2.on b15
  replace r3a := r3a.on b15
  replace r3b := r3b.on b15
  replace r4 := r4.on b15
  replace r5a := r5a.on b15
  replace r5b := r5b.on b15
  replace r6 := r6.on b15
  go_wp2_with (fail)
  refine (heldByteS_any pr4 (lbN e0 n0 n1) cr4 1 _ (by omega) (by omega) (by omega) r4.bytes).mono ?_
  rintro e w16 ⟨rfl, b16⟩
  have k16 : Below W.heap.size W w16 := below_on k15 b16
  have z16 := b16.size
  replace r1a := r1a.on b16
  replace r1b := r1b.on b16
  replace r2 := r2.on b16
  replace r3a := r3a.on b16
  replace r3b := r3b.on b16
  replace r4 := r4.on b16
  replace r5a := r5a.on b16
  replace r5b := r5b.on b16
  replace r6 := r6.on b16
  go_wp2_with (fail)
  go_ret
  exact ⟨rfl, below_on kA k16⟩

theorem letterBytes_law (e0 : Int) (p0 p1 : Option Addr) (n0 q0 n1 q1 : Nat) (xs0 xs1 : List Int) (w : World) (hl0 : n0 ≤ 9223372036854775807) (hl1 : n1 ≤ 9223372036854775807) (hx0 : xs0.length = n0) (hx1 : xs1.length = n1) (h0 : BytesIn w p0 n0 xs0) (h1 : BytesIn w p1 n1 xs1) :
    Calls Try.prog 6 #[.agg #[.int .i64 e0, .slice p0 n0 q0, .slice p1 n1 q1]] w fun e w' => e = .returned (.bool true) ∧ Below w.heap.size w w' := by
  by_cases hs : n0 + n1 ≤ 1048576
  · exact letterBytes_small e0 p0 p1 n0 q0 n1 q1 xs0 xs1 w hs hx0 hx1 h0 h1
  · have C := fun X => szLetter_great e0 p0 p1 n0 q0 n1 q1 X hl0 hl1 hs
    have kA : ∀ o, Below w.heap.size w (w.alloc o) := fun o => made_below _ _ (Below.refl _ _)
    clear h0 h1 hx0 hx1
    go_enter Try.func6, Try.ntmps6
    go_wp2_with (fail)
    refine (C _).mono ?_
    rintro e w1 ⟨rfl, b1⟩
    go_wp2_with (fail)
    go_ret
    exact ⟨rfl, below_on (kA _) b1⟩

end Go.Proofs.Ytaijemajolgmfaa
