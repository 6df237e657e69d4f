/-
  FnExactLineOf returns true for any bytes and any place, and writes nothing that was there; conditions: bytes all, the library's variable is laid.
-/
import Derived.Test.YtelfejgpphoifaaDoorLineOfAny
import Derived.Test.YtelfejgpphoifaaDoorMarkLine
namespace Go.Proofs.YtelfejgpphoifaaDoor
open Go.RowKit
set_option maxRecDepth 100000

set_option maxHeartbeats 8000000 in
theorem lineOf_small (p0 : Option Addr) (n0 q0 : Nat) (xs0 : List Int) (at_ : Int) (w : World) (hn0 : n0 ≤ 1048576) (hx0 : xs0.length = n0) (h0 : BytesIn w p0 n0 xs0) (hb0 : ∀ x ∈ xs0, 0 ≤ x ∧ x < 256) (ha : at_ ≤ 9223372036854775807) (hE : ErrIs w) :
    Calls Tryd.prog 3 #[.slice p0 n0 q0, .int .i64 at_] w fun e w' => e = .returned (.bool true) ∧ Below w.heap.size w w' := by
  have c0 : ¬ (1048576 : Int) < (n0 : Int) := by omega
  obtain ⟨K0, T0, D0, E0, S0, N0, X0, B0, hN0, hX0, CS, CI⟩ := lineOf_sides n0 xs0 at_ hn0 hx0 hb0 ha
  have hBB : (B0 != B0) = false := by simp
  have hEE : (E0 != E0) = false := by simp
  go_enter Tryd.func3, Tryd.ntmps3
  go_wp2_with (fail)
  refine (toByteS_own p0 n0 q0 xs0 _ hn0 hx0 h0).mono ?_
  rintro e w1 ⟨pr1, cr1, rfl, r1, b1⟩
  have k1 : Below w.heap.size w w1 := below_on (Below.refl _ _) b1
  have z1 := b1.size
  go_wp2_with (fail)
  refine (CS pr1 cr1 _ r1.bytes r1.cap).mono ?_
  rintro e w2 ⟨pr2, cr2, rfl, r2, b2⟩
  have k2 : Below w.heap.size w w2 := below_on k1 b2
  have z2 := b2.size
  replace r1 := r1.on b2
  obtain ⟨w3, hw3⟩ : ∃ X, X = w2.alloc (.cells #[.int .i64 K0, .string S0, .int .i64 T0, .int .i64 D0, .slice pr2 N0 cr2] 24) := ⟨_, rfl⟩
  have b3 : Below w2.heap.size w2 w3 := by rw [hw3]; exact made_below _ _ (Below.refl _ _)
  have Cw : Cells w3 w2.heap.size #[.int .i64 K0, .string S0, .int .i64 T0, .int .i64 D0, .slice pr2 N0 cr2] := by rw [hw3]; exact Cells.made _ _ _
  replace hw3 : Hid (w2.alloc (.cells #[.int .i64 K0, .string S0, .int .i64 T0, .int .i64 D0, .slice pr2 N0 cr2] 24) = w3) := hw3.symm
  have k3 : Below w.heap.size w w3 := below_on k2 b3
  have z3 := b3.size
  replace r1 := r1.on b3
  replace r2 := r2.on b3
  go_wp2_with (rw [hw3.out])
  clear hw3
  obtain ⟨Bw, hBw⟩ : ∃ B, B = w2.heap.size := ⟨_, rfl⟩
  have vw : w2.heap.size ≤ Bw ∧ Bw < w3.heap.size := by rw [hBw]; exact ⟨Nat.le_refl _, Cw.1⟩
  rw [← hBw] at Cw  ⊢
  clear hBw
  refine (toByteS_own p0 n0 q0 xs0 _ hn0 hx0 (in_below h0 k3)).mono ?_
  rintro e w4 ⟨pr3, cr3, rfl, r3, b4⟩
  have k4 : Below w.heap.size w w4 := below_on k3 b4
  have z4 := b4.size
  replace r1 := r1.on b4
  replace r2 := r2.on b4
  replace Cw := Cw.on b4
  go_wp2_with (fail)
  refine (CI pr3 cr3 _ r3.bytes r3.cap (hE.on k4)).mono ?_
  rintro e w5 ⟨pr4, cr4, rfl, r4, b5⟩
  have k5 : Below w.heap.size w w5 := below_on k4 b5
  have z5 := b5.size
  replace r1 := r1.on b5
  replace r2 := r2.on b5
  replace r3 := r3.on b5
  replace Cw := Cw.on b5
  obtain ⟨w6, hw6⟩ : ∃ X, X = w5.alloc (.cells #[.int .i64 K0, .string S0, .int .i64 T0, .int .i64 D0, .slice pr4 N0 cr4] 24) := ⟨_, rfl⟩
  have b6 : Below w5.heap.size w5 w6 := by rw [hw6]; exact made_below _ _ (Below.refl _ _)
  have Cg : Cells w6 w5.heap.size #[.int .i64 K0, .string S0, .int .i64 T0, .int .i64 D0, .slice pr4 N0 cr4] := by rw [hw6]; exact Cells.made _ _ _
  replace hw6 : Hid (w5.alloc (.cells #[.int .i64 K0, .string S0, .int .i64 T0, .int .i64 D0, .slice pr4 N0 cr4] 24) = w6) := hw6.symm
  have k6 : Below w.heap.size w w6 := below_on k5 b6
  have z6 := b6.size
  replace r1 := r1.on b6
  replace r2 := r2.on b6
  replace r3 := r3.on b6
  replace r4 := r4.on b6
  replace Cw := Cw.on b6
  have lg0 : w6.cell? ⟨w5.heap.size, 0, none⟩ = some (.int .i64 K0) := (Cg.2 0).1
  have lg1 : w6.cell? ⟨w5.heap.size, 1, none⟩ = some (.string S0) := (Cg.2 1).1
  have lg2 : w6.cell? ⟨w5.heap.size, 2, none⟩ = some (.int .i64 T0) := (Cg.2 2).1
  have lg3 : w6.cell? ⟨w5.heap.size, 3, none⟩ = some (.int .i64 D0) := (Cg.2 3).1
  have lg4 : w6.cell? ⟨w5.heap.size, 4, none⟩ = some (.slice pr4 N0 cr4) := (Cg.2 4).1
  have lw0 : w6.cell? ⟨Bw, 0, none⟩ = some (.int .i64 K0) := (Cw.2 0).1
  have lw1 : w6.cell? ⟨Bw, 1, none⟩ = some (.string S0) := (Cw.2 1).1
  have lw2 : w6.cell? ⟨Bw, 2, none⟩ = some (.int .i64 T0) := (Cw.2 2).1
  have lw3 : w6.cell? ⟨Bw, 3, none⟩ = some (.int .i64 D0) := (Cw.2 3).1
  have lw4 : w6.cell? ⟨Bw, 4, none⟩ = some (.slice pr2 N0 cr2) := (Cw.2 4).1
  go_wp2_with (rw [hw6.out])
  clear hw6
  obtain ⟨Bg, hBg⟩ : ∃ B, B = w5.heap.size := ⟨_, rfl⟩
  have vg : w5.heap.size ≤ Bg ∧ Bg < w6.heap.size := by rw [hBg]; exact ⟨Nat.le_refl _, Cg.1⟩
  rw [← hBg] at Cg lg0 lg1 lg2 lg3 lg4 ⊢
  clear hBg
  clear lg0 lg1 lg2 lg3 lg4 lw0 lw1 lw2 lw3 lw4
  refine (lineSame K0 T0 D0 S0 pr4 pr2 N0 cr4 cr2 X0 _ hN0 hX0 r4.bytes r2.bytes).mono ?_
  rintro e w7 ⟨rfl, b7⟩
  have k7 : Below w.heap.size w w7 := below_on k6 b7
  have z7 := b7.size
  replace r1 := r1.on b7
  replace r2 := r2.on b7
  replace r3 := r3.on b7
  replace r4 := r4.on b7
  replace Cw := Cw.on b7
  replace Cg := Cg.on b7
  go_wp2_with (fail)
  refine (toByteS_own p0 n0 q0 xs0 _ hn0 hx0 (in_below h0 k7)).mono ?_
  rintro e w8 ⟨pr5, cr5, rfl, r5, b8⟩
  have k8 : Below w.heap.size w w8 := below_on k7 b8
  have z8 := b8.size
  replace r1 := r1.on b8
  replace r2 := r2.on b8
  replace r3 := r3.on b8
  replace r4 := r4.on b8
  replace Cw := Cw.on b8
  replace Cg := Cg.on b8
  go_wp2_with (fail)
  refine (eqByteS_any pr3 pr5 n0 n0 cr3 cr5 xs0 xs0 _ (by omega) r3.len r5.len r3.bytes r5.bytes).mono ?_
  rintro e w9 ⟨rfl, b9⟩
  have k9 : Below w.heap.size w w9 := below_on k8 b9
  have z9 := b9.size
  replace r1 := r1.on b9
  replace r2 := r2.on b9
  replace r3 := r3.on b9
  replace r4 := r4.on b9
  replace r5 := r5.on b9
  replace Cw := Cw.on b9
  replace Cg := Cg.on b9
  go_wp2_with (fail)
  refine (markByteS_own _ _ pr3 n0 cr3 xs0 1 _ (by omega) (by omega) (by omega) r3).mono ?_
  rintro e w10 ⟨rfl, m10, g10⟩
  have k10 : Below w.heap.size w w10 := below_mark k9 g10 r3 (by omega)
  have z10 := g10.size
  replace Cw := Cw.far g10 r3 (by omega)
  replace Cg := Cg.far g10 r3 (by omega)
  replace r1 := r1.far g10 r3 (by omega)
  replace r2 := r2.far g10 r3 (by omega)
  replace r4 := r4.far g10 r3 (by omega)
  replace r5 := r5.far g10 r3 (by omega)
  clear r3 g10
  have r3 := m10
  clear m10
  have lg0 : w10.cell? ⟨Bg, 0, none⟩ = some (.int .i64 K0) := (Cg.2 0).1
  have lg1 : w10.cell? ⟨Bg, 1, none⟩ = some (.string S0) := (Cg.2 1).1
  have lg2 : w10.cell? ⟨Bg, 2, none⟩ = some (.int .i64 T0) := (Cg.2 2).1
  have lg3 : w10.cell? ⟨Bg, 3, none⟩ = some (.int .i64 D0) := (Cg.2 3).1
  have lg4 : w10.cell? ⟨Bg, 4, none⟩ = some (.slice pr4 N0 cr4) := (Cg.2 4).1
  have lw0 : w10.cell? ⟨Bw, 0, none⟩ = some (.int .i64 K0) := (Cw.2 0).1
  have lw1 : w10.cell? ⟨Bw, 1, none⟩ = some (.string S0) := (Cw.2 1).1
  have lw2 : w10.cell? ⟨Bw, 2, none⟩ = some (.int .i64 T0) := (Cw.2 2).1
  have lw3 : w10.cell? ⟨Bw, 3, none⟩ = some (.int .i64 D0) := (Cw.2 3).1
  have lw4 : w10.cell? ⟨Bw, 4, none⟩ = some (.slice pr2 N0 cr2) := (Cw.2 4).1
  go_wp2_with (fail)
  clear lg0 lg1 lg2 lg3 lg4 lw0 lw1 lw2 lw3 lw4
  refine (lineSame K0 T0 D0 S0 pr4 pr2 N0 cr4 cr2 X0 _ hN0 hX0 r4.bytes r2.bytes).mono ?_
  rintro e w11 ⟨rfl, b11⟩
  have k11 : Below w.heap.size w w11 := below_on k10 b11
  have z11 := b11.size
  replace r1 := r1.on b11
  replace r2 := r2.on b11
  replace r3 := r3.on b11
  replace r4 := r4.on b11
  replace r5 := r5.on b11
  replace Cw := Cw.on b11
  replace Cg := Cg.on b11
  have lg0 : w11.cell? ⟨Bg, 0, none⟩ = some (.int .i64 K0) := (Cg.2 0).1
  have lg1 : w11.cell? ⟨Bg, 1, none⟩ = some (.string S0) := (Cg.2 1).1
  have lg2 : w11.cell? ⟨Bg, 2, none⟩ = some (.int .i64 T0) := (Cg.2 2).1
  have lg3 : w11.cell? ⟨Bg, 3, none⟩ = some (.int .i64 D0) := (Cg.2 3).1
  have lg4 : w11.cell? ⟨Bg, 4, none⟩ = some (.slice pr4 N0 cr4) := (Cg.2 4).1
  go_wp2_with (fail)
  clear lg0 lg1 lg2 lg3 lg4
  refine (markLine_own _ _ K0 T0 D0 S0 pr4 N0 cr4 X0 1 _ hN0 (by omega) (by omega) r4).mono ?_
  rintro e w12 ⟨rfl, wa12, ba12, g12, m12⟩
  replace Cw := Cw.on ba12
  replace Cg := Cg.on ba12
  replace r1 := r1.on ba12
  replace r2 := r2.on ba12
  replace r3 := r3.on ba12
  replace r4 := r4.on ba12
  replace r5 := r5.on ba12
  have za12 := ba12.size
  have ka12 := below_on k11 ba12
  have k12 : Below w.heap.size w w12 := below_mark ka12 g12 r4 (by omega)
  have z12 := g12.size
  replace Cw := Cw.far g12 r4 (by omega)
  replace Cg := Cg.far g12 r4 (by omega)
  replace r1 := r1.far g12 r4 (by omega)
  replace r2 := r2.far g12 r4 (by omega)
  replace r3 := r3.far g12 r4 (by omega)
  replace r5 := r5.far g12 r4 (by omega)
  clear r4 g12
  have r4 := m12
  clear m12
  have lg0 : w12.cell? ⟨Bg, 0, none⟩ = some (.int .i64 K0) := (Cg.2 0).1
  have lg1 : w12.cell? ⟨Bg, 1, none⟩ = some (.string S0) := (Cg.2 1).1
  have lg2 : w12.cell? ⟨Bg, 2, none⟩ = some (.int .i64 T0) := (Cg.2 2).1
  have lg3 : w12.cell? ⟨Bg, 3, none⟩ = some (.int .i64 D0) := (Cg.2 3).1
  have lg4 : w12.cell? ⟨Bg, 4, none⟩ = some (.slice pr4 N0 cr4) := (Cg.2 4).1
  go_wp2_with (fail)
  clear lg0 lg1 lg2 lg3 lg4
  refine (heldLine_any K0 T0 D0 S0 pr4 N0 cr4 1 _ hN0 (by omega) (by omega) r4.bytes).mono ?_
  rintro e w13 ⟨rfl, b13⟩
  have k13 : Below w.heap.size w w13 := below_on k12 b13
  have z13 := b13.size
  replace r1 := r1.on b13
  replace r2 := r2.on b13
  replace r3 := r3.on b13
  replace r4 := r4.on b13
  replace r5 := r5.on b13
  replace Cw := Cw.on b13
  replace Cg := Cg.on b13
  go_wp2_with (fail)
  refine (toByteS_own p0 n0 q0 xs0 _ hn0 hx0 (in_below h0 k13)).mono ?_
  rintro e w14 ⟨pr6, cr6, rfl, r6, b14⟩
  have k14 : Below w.heap.size w w14 := below_on k13 b14
  have z14 := b14.size
  replace r1 := r1.on b14
  replace r2 := r2.on b14
  replace r3 := r3.on b14
  replace r4 := r4.on b14
  replace r5 := r5.on b14
  replace Cw := Cw.on b14
  replace Cg := Cg.on b14
  go_wp2_with (fail)
  refine (CI pr6 cr6 _ r6.bytes r6.cap (hE.on k14)).mono ?_
  rintro e w15 ⟨pr7, cr7, rfl, r7, b15⟩
  have k15 : Below w.heap.size w w15 := below_on k14 b15
  have z15 := b15.size
  replace r1 := r1.on b15
  replace r2 := r2.on b15
  replace r3 := r3.on b15
  replace r4 := r4.on b15
  replace r5 := r5.on b15
  replace r6 := r6.on b15
  replace Cw := Cw.on b15
  replace Cg := Cg.on b15
  obtain ⟨w16, hw16⟩ : ∃ X, X = w15.alloc (.cells #[.int .i64 K0, .string S0, .int .i64 T0, .int .i64 D0, .slice pr7 N0 cr7] 24) := ⟨_, rfl⟩
  have b16 : Below w15.heap.size w15 w16 := by rw [hw16]; exact made_below _ _ (Below.refl _ _)
  have Ch : Cells w16 w15.heap.size #[.int .i64 K0, .string S0, .int .i64 T0, .int .i64 D0, .slice pr7 N0 cr7] := by rw [hw16]; exact Cells.made _ _ _
  replace hw16 : Hid (w15.alloc (.cells #[.int .i64 K0, .string S0, .int .i64 T0, .int .i64 D0, .slice pr7 N0 cr7] 24) = w16) := hw16.symm
  have k16 : Below w.heap.size w w16 := below_on k15 b16
  have z16 := b16.size
  replace r1 := r1.on b16
  replace r2 := r2.on b16
  replace r3 := r3.on b16
  replace r4 := r4.on b16
  replace r5 := r5.on b16
  replace r6 := r6.on b16
  replace r7 := r7.on b16
  replace Cw := Cw.on b16
  replace Cg := Cg.on b16
  have lh0 : w16.cell? ⟨w15.heap.size, 0, none⟩ = some (.int .i64 K0) := (Ch.2 0).1
  have lh1 : w16.cell? ⟨w15.heap.size, 1, none⟩ = some (.string S0) := (Ch.2 1).1
  have lh2 : w16.cell? ⟨w15.heap.size, 2, none⟩ = some (.int .i64 T0) := (Ch.2 2).1
  have lh3 : w16.cell? ⟨w15.heap.size, 3, none⟩ = some (.int .i64 D0) := (Ch.2 3).1
  have lh4 : w16.cell? ⟨w15.heap.size, 4, none⟩ = some (.slice pr7 N0 cr7) := (Ch.2 4).1
  have lw0 : w16.cell? ⟨Bw, 0, none⟩ = some (.int .i64 K0) := (Cw.2 0).1
  have lw1 : w16.cell? ⟨Bw, 1, none⟩ = some (.string S0) := (Cw.2 1).1
  have lw2 : w16.cell? ⟨Bw, 2, none⟩ = some (.int .i64 T0) := (Cw.2 2).1
  have lw3 : w16.cell? ⟨Bw, 3, none⟩ = some (.int .i64 D0) := (Cw.2 3).1
  have lw4 : w16.cell? ⟨Bw, 4, none⟩ = some (.slice pr2 N0 cr2) := (Cw.2 4).1
  go_wp2_with (rw [hw16.out])
  clear hw16
  obtain ⟨Bh, hBh⟩ : ∃ B, B = w15.heap.size := ⟨_, rfl⟩
  have vh : w15.heap.size ≤ Bh ∧ Bh < w16.heap.size := by rw [hBh]; exact ⟨Nat.le_refl _, Ch.1⟩
  rw [← hBh] at Ch lh0 lh1 lh2 lh3 lh4 ⊢
  clear hBh
  clear lh0 lh1 lh2 lh3 lh4 lw0 lw1 lw2 lw3 lw4
  refine (lineSame K0 T0 D0 S0 pr7 pr2 N0 cr7 cr2 X0 _ hN0 hX0 r7.bytes r2.bytes).mono ?_
  rintro e w17 ⟨rfl, b17⟩
  have k17 : Below w.heap.size w w17 := below_on k16 b17
  have z17 := b17.size
  replace r1 := r1.on b17
  replace r2 := r2.on b17
  replace r3 := r3.on b17
  replace r4 := r4.on b17
  replace r5 := r5.on b17
  replace r6 := r6.on b17
  replace r7 := r7.on b17
  replace Cw := Cw.on b17
  replace Cg := Cg.on b17
  replace Ch := Ch.on b17
  have lg0 : w17.cell? ⟨Bg, 0, none⟩ = some (.int .i64 K0) := (Cg.2 0).1
  have lg1 : w17.cell? ⟨Bg, 1, none⟩ = some (.string S0) := (Cg.2 1).1
  have lg2 : w17.cell? ⟨Bg, 2, none⟩ = some (.int .i64 T0) := (Cg.2 2).1
  have lg3 : w17.cell? ⟨Bg, 3, none⟩ = some (.int .i64 D0) := (Cg.2 3).1
  have lg4 : w17.cell? ⟨Bg, 4, none⟩ = some (.slice pr4 N0 cr4) := (Cg.2 4).1
  go_wp2_with (fail)
  clear lg0 lg1 lg2 lg3 lg4
  refine (heldLine_any K0 T0 D0 S0 pr4 N0 cr4 1 _ hN0 (by omega) (by omega) r4.bytes).mono ?_
  rintro e w18 ⟨rfl, b18⟩
  have k18 : Below w.heap.size w w18 := below_on k17 b18
  have z18 := b18.size
  replace r1 := r1.on b18
  replace r2 := r2.on b18
  replace r3 := r3.on b18
  replace r4 := r4.on b18
  replace r5 := r5.on b18
  replace r6 := r6.on b18
  replace r7 := r7.on b18
  replace Cw := Cw.on b18
  replace Cg := Cg.on b18
  replace Ch := Ch.on b18
  go_wp2_with (fail)
  go_ret
  exact ⟨rfl, k18⟩

theorem lineOf_law (p0 : Option Addr) (n0 q0 : Nat) (xs0 : List Int) (at_ : Int) (w : World) (hx0 : xs0.length = n0) (h0 : BytesIn w p0 n0 xs0) (hb0 : ∀ x ∈ xs0, 0 ≤ x ∧ x < 256) (ha : at_ ≤ 9223372036854775807) (hE : ErrIs w) :
    Calls Tryd.prog 3 #[.slice p0 n0 q0, .int .i64 at_] w fun e w' => e = .returned (.bool true) ∧ Below w.heap.size w w' := by
  by_cases hn0 : n0 ≤ 1048576
  · exact lineOf_small p0 n0 q0 xs0 at_ w hn0 hx0 h0 hb0 ha hE
  · have d0 : (1048576 : Int) < (n0 : Int) := by omega
    clear hx0 h0 hb0 hE
    go_enter Tryd.func3, Tryd.ntmps3
    go_wp2
    go_ret
    exact ⟨rfl, Below.refl _ _⟩

end Go.Proofs.YtelfejgpphoifaaDoor
