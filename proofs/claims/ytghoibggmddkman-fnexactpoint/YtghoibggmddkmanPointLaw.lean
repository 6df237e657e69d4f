/-
  FnExactPoint returns true for any lists and numbers, and writes nothing that was there; conditions: bytes all.
-/
import Derived.Test.YtghoibggmddkmanTo
import Derived.Test.YtghoibggmddkmanMarks
import Derived.Test.YtghoibggmddkmanEq
import Derived.Test.YtghoibggmddkmanPointS
import Derived.Test.YtghoibggmddkmanPointI
namespace Go.Proofs.Ytghoibggmddkman
open Go.RowKit

set_option maxHeartbeats 8000000 in
theorem point_small (p0 p1 : Option Addr) (n0 q0 n1 q1 : Nat) (xs0 xs1 : List Int) (w : World) (hn0 : n0 ≤ 1048576) (hn1 : n1 ≤ 1048576) (hx0 : xs0.length = n0) (h0 : BytesIn w p0 n0 xs0) (hb0 : ∀ x ∈ xs0, 0 ≤ x ∧ x < 256) (hx1 : xs1.length = n1) (h1 : BytesIn w p1 n1 xs1) (hb1 : ∀ x ∈ xs1, 0 ≤ x ∧ x < 256) :
    Calls Try.prog 8 #[.slice p0 n0 q0, .slice p1 n1 q1] w fun e w' => e = .returned (.bool true) ∧ Below w.heap.size w w' := by
  have c0 : ¬ (1048576 : Int) < (n0 : Int) := by omega
  have c1 : ¬ (1048576 : Int) < (n1 : Int) := by omega
  have hpb := fldN_le n0 n1
  go_enter Try.func8, Try.ntmps8
  go_wp2_with (fail)
  refine (toByteS_own p0 n0 q0 xs0 _ hn0 hx0 h0).mono ?_
  rintro e w1 ⟨pr1, cr1, rfl, r1, b1⟩
  have k1 : Below w.heap.size w w1 := below_on (Below.refl _ _) b1
  have z1 := b1.size
  go_wp2_with (fail)
  refine (toByteS_own p1 n1 q1 xs1 _ hn1 hx1 (in_below h1 k1)).mono ?_
  rintro e w2 ⟨pr2, cr2, rfl, r2, b2⟩
  have k2 : Below w.heap.size w w2 := below_on k1 b2
  have z2 := b2.size
  replace r1 := r1.on b2
  go_wp2_with (fail)
  refine (specPoint_any pr1 pr2 n0 n1 cr1 cr2 xs0 xs1 _ r1.len r1.bytes r2.bytes hb0 hb1).mono ?_
  rintro e w3 ⟨pr3, cr3, rfl, r3, b3⟩
  have k3 : Below w.heap.size w w3 := below_on k2 b3
  have z3 := b3.size
  replace r1 := r1.on b3
  replace r2 := r2.on b3
  go_wp2_with (fail)
  refine (toByteS_own p0 n0 q0 xs0 _ hn0 hx0 (in_below h0 k3)).mono ?_
  rintro e w4 ⟨pr4, cr4, rfl, r4, b4⟩
  have k4 : Below w.heap.size w w4 := below_on k3 b4
  have z4 := b4.size
  replace r1 := r1.on b4
  replace r2 := r2.on b4
  replace r3 := r3.on b4
  go_wp2_with (fail)
  refine (toByteS_own p1 n1 q1 xs1 _ hn1 hx1 (in_below h1 k4)).mono ?_
  rintro e w5 ⟨pr5, cr5, rfl, r5, b5⟩
  have k5 : Below w.heap.size w w5 := below_on k4 b5
  have z5 := b5.size
  replace r1 := r1.on b5
  replace r2 := r2.on b5
  replace r3 := r3.on b5
  replace r4 := r4.on b5
  go_wp2_with (fail)
  refine (implPoint_any pr4 pr5 n0 n1 cr4 cr5 xs0 xs1 _ r4.len r4.bytes r5.bytes hb0 hb1 r5.cap).mono ?_
  rintro e w6 ⟨pr6, cr6, rfl, r6, b6⟩
  have k6 : Below w.heap.size w w6 := below_on k5 b6
  have z6 := b6.size
  replace r1 := r1.on b6
  replace r2 := r2.on b6
  replace r3 := r3.on b6
  replace r4 := r4.on b6
  replace r5 := r5.on b6
  go_wp2_with (fail)
  refine (eqByteS_any pr6 pr3 (fldN n0 n1) (fldN n0 n1) cr6 cr3 (fldL (ptZ xs0 xs1) n0 n1) (fldL (ptZ xs0 xs1) n0 n1) _ (by omega) r6.len r3.len r6.bytes r3.bytes).mono ?_
  rintro e w7 ⟨rfl, b7⟩
  have k7 : Below w.heap.size w w7 := below_on k6 b7
  have z7 := b7.size
  replace r1 := r1.on b7
  replace r2 := r2.on b7
  replace r3 := r3.on b7
  replace r4 := r4.on b7
  replace r5 := r5.on b7
  replace r6 := r6.on b7
  go_wp2_with (fail)
  refine (toByteS_own p0 n0 q0 xs0 _ hn0 hx0 (in_below h0 k7)).mono ?_
  rintro e w8 ⟨pr7, cr7, rfl, r7, b8⟩
  have k8 : Below w.heap.size w w8 := below_on k7 b8
  have z8 := b8.size
  replace r1 := r1.on b8
  replace r2 := r2.on b8
  replace r3 := r3.on b8
  replace r4 := r4.on b8
  replace r5 := r5.on b8
  replace r6 := r6.on b8
  go_wp2_with (fail)
  refine (eqByteS_any pr4 pr7 n0 n0 cr4 cr7 xs0 xs0 _ (by omega) r4.len r7.len r4.bytes r7.bytes).mono ?_
  rintro e w9 ⟨rfl, b9⟩
  have k9 : Below w.heap.size w w9 := below_on k8 b9
  have z9 := b9.size
  replace r1 := r1.on b9
  replace r2 := r2.on b9
  replace r3 := r3.on b9
  replace r4 := r4.on b9
  replace r5 := r5.on b9
  replace r6 := r6.on b9
  replace r7 := r7.on b9
  go_wp2_with (fail)
  refine (toByteS_own p1 n1 q1 xs1 _ hn1 hx1 (in_below h1 k9)).mono ?_
  rintro e w10 ⟨pr8, cr8, rfl, r8, b10⟩
  have k10 : Below w.heap.size w w10 := below_on k9 b10
  have z10 := b10.size
  replace r1 := r1.on b10
  replace r2 := r2.on b10
  replace r3 := r3.on b10
  replace r4 := r4.on b10
  replace r5 := r5.on b10
  replace r6 := r6.on b10
  replace r7 := r7.on b10
  go_wp2_with (fail)
  refine (eqByteS_any pr5 pr8 n1 n1 cr5 cr8 xs1 xs1 _ (by omega) r5.len r8.len r5.bytes r8.bytes).mono ?_
  rintro e w11 ⟨rfl, b11⟩
  have k11 : Below w.heap.size w w11 := below_on k10 b11
  have z11 := b11.size
  replace r1 := r1.on b11
  replace r2 := r2.on b11
  replace r3 := r3.on b11
  replace r4 := r4.on b11
  replace r5 := r5.on b11
  replace r6 := r6.on b11
  replace r7 := r7.on b11
  replace r8 := r8.on b11
  go_wp2_with (fail)
  refine (markByteS_own _ _ pr4 n0 cr4 xs0 1 _ (by omega) (by omega) (by omega) r4).mono ?_
  rintro e w12 ⟨rfl, m12, g12⟩
  have k12 : Below w.heap.size w w12 := below_mark k11 g12 r4 (by omega)
  have z12 := g12.size
  replace r1 := r1.far g12 r4 (by omega)
  replace r2 := r2.far g12 r4 (by omega)
  replace r3 := r3.far g12 r4 (by omega)
  replace r5 := r5.far g12 r4 (by omega)
  replace r6 := r6.far g12 r4 (by omega)
  replace r7 := r7.far g12 r4 (by omega)
  replace r8 := r8.far g12 r4 (by omega)
  clear r4 g12
  have r4 := m12
  clear m12
  go_wp2_with (fail)
  refine (markByteS_own _ _ pr5 n1 cr5 xs1 (1 + (n0 : Int)) _ (by omega) (by omega) (by omega) r5).mono ?_
  rintro e w13 ⟨rfl, m13, g13⟩
  have k13 : Below w.heap.size w w13 := below_mark k12 g13 r5 (by omega)
  have z13 := g13.size
  replace r1 := r1.far g13 r5 (by omega)
  replace r2 := r2.far g13 r5 (by omega)
  replace r3 := r3.far g13 r5 (by omega)
  replace r4 := r4.far g13 r5 (by omega)
  replace r6 := r6.far g13 r5 (by omega)
  replace r7 := r7.far g13 r5 (by omega)
  replace r8 := r8.far g13 r5 (by omega)
  clear r5 g13
  have r5 := m13
  clear m13
  go_wp2_with (fail)
  refine (eqByteS_any pr6 pr3 (fldN n0 n1) (fldN n0 n1) cr6 cr3 (fldL (ptZ xs0 xs1) n0 n1) (fldL (ptZ xs0 xs1) n0 n1) _ (by omega) r6.len r3.len r6.bytes r3.bytes).mono ?_
  rintro e w14 ⟨rfl, b14⟩
  have k14 : Below w.heap.size w w14 := below_on k13 b14
  have z14 := b14.size
  replace r1 := r1.on b14
  replace r2 := r2.on b14
  replace r3 := r3.on b14
  replace r4 := r4.on b14
  replace r5 := r5.on b14
  replace r6 := r6.on b14
  replace r7 := r7.on b14
  replace r8 := r8.on b14
  go_wp2_with (fail)
  refine (markByteS_own _ _ pr6 (fldN n0 n1) cr6 (fldL (ptZ xs0 xs1) n0 n1) 1 _ (by omega) (by omega) (by omega) r6).mono ?_
  rintro e w15 ⟨rfl, m15, g15⟩
  have k15 : Below w.heap.size w w15 := below_mark k14 g15 r6 (by omega)
  have z15 := g15.size
  replace r1 := r1.far g15 r6 (by omega)
  replace r2 := r2.far g15 r6 (by omega)
  replace r3 := r3.far g15 r6 (by omega)
  replace r4 := r4.far g15 r6 (by omega)
  replace r5 := r5.far g15 r6 (by omega)
  replace r7 := r7.far g15 r6 (by omega)
  replace r8 := r8.far g15 r6 (by omega)
  clear r6 g15
  have r6 := m15
  clear m15
  go_wp2_with (fail)
  refine (heldByteS_any pr6 (fldN n0 n1) cr6 1 _ (by omega) (by omega) (by omega) r6.bytes).mono ?_
  rintro e w16 ⟨rfl, b16⟩
  have k16 : Below w.heap.size w w16 := below_on k15 b16
  have z16 := b16.size
  replace r1 := r1.on b16
  replace r2 := r2.on b16
  replace r3 := r3.on b16
  replace r4 := r4.on b16
  replace r5 := r5.on b16
  replace r6 := r6.on b16
  replace r7 := r7.on b16
  replace r8 := r8.on b16
  go_wp2_with (fail)
  refine (toByteS_own p0 n0 q0 xs0 _ hn0 hx0 (in_below h0 k16)).mono ?_
  rintro e w17 ⟨pr9, cr9, rfl, r9, b17⟩
  have k17 : Below w.heap.size w w17 := below_on k16 b17
  have z17 := b17.size
  replace r1 := r1.on b17
  replace r2 := r2.on b17
  replace r3 := r3.on b17
  replace r4 := r4.on b17
  replace r5 := r5.on b17
  replace r6 := r6.on b17
  replace r7 := r7.on b17
  replace r8 := r8.on b17
  go_wp2_with (fail)
  refine (toByteS_own p1 n1 q1 xs1 _ hn1 hx1 (in_below h1 k17)).mono ?_
  rintro e w18 ⟨pr10, cr10, rfl, r10, b18⟩
  have k18 : Below w.heap.size w w18 := below_on k17 b18
  have z18 := b18.size
  replace r1 := r1.on b18
  replace r2 := r2.on b18
  replace r3 := r3.on b18
  replace r4 := r4.on b18
  replace r5 := r5.on b18
  replace r6 := r6.on b18
  replace r7 := r7.on b18
  replace r8 := r8.on b18
  replace r9 := r9.on b18
  go_wp2_with (fail)
  refine (implPoint_any pr9 pr10 n0 n1 cr9 cr10 xs0 xs1 _ r9.len r9.bytes r10.bytes hb0 hb1 r10.cap).mono ?_
  rintro e w19 ⟨pr11, cr11, rfl, r11, b19⟩
  have k19 : Below w.heap.size w w19 := below_on k18 b19
  have z19 := b19.size
  replace r1 := r1.on b19
  replace r2 := r2.on b19
  replace r3 := r3.on b19
  replace r4 := r4.on b19
  replace r5 := r5.on b19
  replace r6 := r6.on b19
  replace r7 := r7.on b19
  replace r8 := r8.on b19
  replace r9 := r9.on b19
  replace r10 := r10.on b19
  go_wp2_with (fail)
  refine (eqByteS_any pr11 pr3 (fldN n0 n1) (fldN n0 n1) cr11 cr3 (fldL (ptZ xs0 xs1) n0 n1) (fldL (ptZ xs0 xs1) n0 n1) _ (by omega) r11.len r3.len r11.bytes r3.bytes).mono ?_
  rintro e w20 ⟨rfl, b20⟩
  have k20 : Below w.heap.size w w20 := below_on k19 b20
  have z20 := b20.size
  replace r1 := r1.on b20
  replace r2 := r2.on b20
  replace r3 := r3.on b20
  replace r4 := r4.on b20
  replace r5 := r5.on b20
  replace r6 := r6.on b20
  replace r7 := r7.on b20
  replace r8 := r8.on b20
  replace r9 := r9.on b20
  replace r10 := r10.on b20
  replace r11 := r11.on b20
  go_wp2_with (fail)
  refine (heldByteS_any pr6 (fldN n0 n1) cr6 1 _ (by omega) (by omega) (by omega) r6.bytes).mono ?_
  rintro e w21 ⟨rfl, b21⟩
  have k21 : Below w.heap.size w w21 := below_on k20 b21
  have z21 := b21.size
  replace r1 := r1.on b21
  replace r2 := r2.on b21
  replace r3 := r3.on b21
  replace r4 := r4.on b21
  replace r5 := r5.on b21
  replace r6 := r6.on b21
  replace r7 := r7.on b21
  replace r8 := r8.on b21
  replace r9 := r9.on b21
  replace r10 := r10.on b21
  replace r11 := r11.on b21
  go_wp2_with (fail)
  go_ret
  exact ⟨rfl, k21⟩

theorem point_law (p0 p1 : Option Addr) (n0 q0 n1 q1 : Nat) (xs0 xs1 : List Int) (w : World) (hx0 : xs0.length = n0) (h0 : BytesIn w p0 n0 xs0) (hb0 : ∀ x ∈ xs0, 0 ≤ x ∧ x < 256) (hx1 : xs1.length = n1) (h1 : BytesIn w p1 n1 xs1) (hb1 : ∀ x ∈ xs1, 0 ≤ x ∧ x < 256) :
    Calls Try.prog 8 #[.slice p0 n0 q0, .slice p1 n1 q1] w fun e w' => e = .returned (.bool true) ∧ Below w.heap.size w w' := by
  by_cases hn0 : n0 ≤ 1048576
  · by_cases hn1 : n1 ≤ 1048576
    · exact point_small p0 p1 n0 q0 n1 q1 xs0 xs1 w hn0 hn1 hx0 h0 hb0 hx1 h1 hb1
    · have d1 : (1048576 : Int) < (n1 : Int) := by omega
      have d0 : ¬ (1048576 : Int) < (n0 : Int) := by omega
      clear hx0 h0 hb0 hx1 h1 hb1
      go_enter Try.func8, Try.ntmps8
      go_wp2
      go_ret
      exact ⟨rfl, Below.refl _ _⟩
  · have d0 : (1048576 : Int) < (n0 : Int) := by omega
    clear hx0 h0 hb0 hx1 h1 hb1
    go_enter Try.func8, Try.ntmps8
    go_wp2
    go_ret
    exact ⟨rfl, Below.refl _ _⟩

end Go.Proofs.Ytghoibggmddkman
