/-
  FnExactStream returns true for any lists and numbers, and writes nothing that was there; conditions: bytes all, and the table is as its text says.
-/
import Derived.Test.YtepbidaoloplbaaDoorPart28
import Derived.Test.YtepbidaoloplbaaDoorPart12
import Derived.Test.YtepbidaoloplbaaDoorPart17
import Derived.Test.YtepbidaoloplbaaDoorPart15
import Derived.Test.YtepbidaoloplbaaDoorPart14
import Derived.Test.YtepbidaoloplbaaDoorPart16
import Derived.Test.YtepbidaoloplbaaDoorPart18
import Derived.Test.YtepbidaoloplbaaDoorPart27
import Derived.Test.YtepbidaoloplbaaDoorPart25
import Derived.Test.YtepbidaoloplbaaDoorPart26
namespace Go.Proofs.YtepbidaoloplbaaDoor.Alt
open Go.RowKit

set_option maxHeartbeats 8000000 in
theorem stream_small (p0 p1 p2 : Option Addr) (n0 q0 n1 q1 n2 q2 : Nat) (count : Int) (xs0 xs1 xs2 : List Int) (w : World) (hn0 : n0 ≤ 1048576) (hn1 : n1 ≤ 1048576) (hn2 : n2 ≤ 1048576) (hx0 : xs0.length = n0) (h0 : BytesIn w p0 n0 xs0) (hb0 : ∀ x ∈ xs0, 0 ≤ x ∧ x < 256) (hx1 : xs1.length = n1) (h1 : BytesIn w p1 n1 xs1) (hb1 : ∀ x ∈ xs1, 0 ≤ x ∧ x < 256) (hx2 : xs2.length = n2) (h2 : BytesIn w p2 n2 xs2) (hb2 : ∀ x ∈ xs2, 0 ≤ x ∧ x < 256) (hK : CtOk count w) :
    Calls Altd.prog 5 #[.slice p0 n0 q0, .int .i64 count, .slice p1 n1 q1, .slice p2 n2 q2] w fun e w' => e = .returned (.bool true) ∧ Below w.heap.size w w' := by
  have c0 : ¬ (1048576 : Int) < (n0 : Int) := by omega
  have c1 : ¬ (1048576 : Int) < (n1 : Int) := by omega
  have c2 : ¬ (1048576 : Int) < (n2 : Int) := by omega
  have hpb := strS_le xs0 count xs1 xs2
  go_enter Altd.func5, Altd.ntmps5
  go_wp2_with (fail)
  refine (toByteS_own p0 n0 q0 xs0 _ hn0 hx0 h0).mono ?_
  rintro e w1 ⟨pr1, cr1, rfl, r1, b1⟩
  have k1 : Below w.heap.size w w1 := below_on (Below.refl _ _) b1
  have z1 := b1.size
  go_wp2_with (fail)
  refine (toByteS_own p1 n1 q1 xs1 _ hn1 hx1 (in_below h1 k1)).mono ?_
  rintro e w2 ⟨pr2, cr2, rfl, r2, b2⟩
  have k2 : Below w.heap.size w w2 := below_on k1 b2
  have z2 := b2.size
  replace r1 := r1.on b2
  go_wp2_with (fail)
  refine (toByteS_own p2 n2 q2 xs2 _ hn2 hx2 (in_below h2 k2)).mono ?_
  rintro e w3 ⟨pr3, cr3, rfl, r3, b3⟩
  have k3 : Below w.heap.size w w3 := below_on k2 b3
  have z3 := b3.size
  replace r1 := r1.on b3
  replace r2 := r2.on b3
  go_wp2_with (fail)
  refine (specStream_own pr1 pr2 pr3 n0 n1 n2 cr1 cr2 cr3 count xs0 xs1 xs2 _ r3.cap r1.len r2.len r3.len r1.bytes r2.bytes r3.bytes hb0 hb1).mono ?_
  rintro e w4 ⟨pr4, cr4, rfl, r4, b4⟩
  have k4 : Below w.heap.size w w4 := below_on k3 b4
  have z4 := b4.size
  replace r1 := r1.on b4
  replace r2 := r2.on b4
  replace r3 := r3.on b4
  go_wp2_with (fail)
  refine (toByteS_own p0 n0 q0 xs0 _ hn0 hx0 (in_below h0 k4)).mono ?_
  rintro e w5 ⟨pr5, cr5, rfl, r5, b5⟩
  have k5 : Below w.heap.size w w5 := below_on k4 b5
  have z5 := b5.size
  replace r1 := r1.on b5
  replace r2 := r2.on b5
  replace r3 := r3.on b5
  replace r4 := r4.on b5
  go_wp2_with (fail)
  refine (toByteS_own p1 n1 q1 xs1 _ hn1 hx1 (in_below h1 k5)).mono ?_
  rintro e w6 ⟨pr6, cr6, rfl, r6, b6⟩
  have k6 : Below w.heap.size w w6 := below_on k5 b6
  have z6 := b6.size
  replace r1 := r1.on b6
  replace r2 := r2.on b6
  replace r3 := r3.on b6
  replace r4 := r4.on b6
  replace r5 := r5.on b6
  go_wp2_with (fail)
  refine (toByteS_own p2 n2 q2 xs2 _ hn2 hx2 (in_below h2 k6)).mono ?_
  rintro e w7 ⟨pr7, cr7, rfl, r7, b7⟩
  have k7 : Below w.heap.size w w7 := below_on k6 b7
  have z7 := b7.size
  replace r1 := r1.on b7
  replace r2 := r2.on b7
  replace r3 := r3.on b7
  replace r4 := r4.on b7
  replace r5 := r5.on b7
  replace r6 := r6.on b7
  go_wp2_with (fail)
  refine (implStream_own pr5 pr6 pr7 n0 n1 n2 cr5 cr6 cr7 count xs0 xs1 xs2 _ hn0 hn1 hn2 r5.cap r6.cap r7.cap hK r5.len r6.len r7.len r5.bytes r6.bytes r7.bytes hb0 hb1 hb2).mono ?_
  rintro e w8 ⟨pr8, cr8, rfl, r8, b8⟩
  have k8 : Below w.heap.size w w8 := below_on k7 b8
  have z8 := b8.size
  replace r1 := r1.on b8
  replace r2 := r2.on b8
  replace r3 := r3.on b8
  replace r4 := r4.on b8
  replace r5 := r5.on b8
  replace r6 := r6.on b8
  replace r7 := r7.on b8
  go_wp2_with (fail)
  refine (eqByteS_any pr8 pr4 (strS xs0 count xs1 xs2).length (strS xs0 count xs1 xs2).length cr8 cr4 (strS xs0 count xs1 xs2) (strS xs0 count xs1 xs2) _ (by omega) r8.len r4.len r8.bytes r4.bytes).mono ?_
  rintro e w9 ⟨rfl, b9⟩
  have k9 : Below w.heap.size w w9 := below_on k8 b9
  have z9 := b9.size
  replace r1 := r1.on b9
  replace r2 := r2.on b9
  replace r3 := r3.on b9
  replace r4 := r4.on b9
  replace r5 := r5.on b9
  replace r6 := r6.on b9
  replace r7 := r7.on b9
  replace r8 := r8.on b9
  go_wp2_with (fail)
  refine (toByteS_own p0 n0 q0 xs0 _ hn0 hx0 (in_below h0 k9)).mono ?_
  rintro e w10 ⟨pr9, cr9, rfl, r9, b10⟩
  have k10 : Below w.heap.size w w10 := below_on k9 b10
  have z10 := b10.size
  replace r1 := r1.on b10
  replace r2 := r2.on b10
  replace r3 := r3.on b10
  replace r4 := r4.on b10
  replace r5 := r5.on b10
  replace r6 := r6.on b10
  replace r7 := r7.on b10
  replace r8 := r8.on b10
  go_wp2_with (fail)
  refine (eqByteS_any pr5 pr9 n0 n0 cr5 cr9 xs0 xs0 _ (by omega) r5.len r9.len r5.bytes r9.bytes).mono ?_
  rintro e w11 ⟨rfl, b11⟩
  have k11 : Below w.heap.size w w11 := below_on k10 b11
  have z11 := b11.size
  replace r1 := r1.on b11
  replace r2 := r2.on b11
  replace r3 := r3.on b11
  replace r4 := r4.on b11
  replace r5 := r5.on b11
  replace r6 := r6.on b11
  replace r7 := r7.on b11
  replace r8 := r8.on b11
  replace r9 := r9.on b11
  go_wp2_with (fail)
  refine (toByteS_own p1 n1 q1 xs1 _ hn1 hx1 (in_below h1 k11)).mono ?_
  rintro e w12 ⟨pr10, cr10, rfl, r10, b12⟩
  have k12 : Below w.heap.size w w12 := below_on k11 b12
  have z12 := b12.size
  replace r1 := r1.on b12
  replace r2 := r2.on b12
  replace r3 := r3.on b12
  replace r4 := r4.on b12
  replace r5 := r5.on b12
  replace r6 := r6.on b12
  replace r7 := r7.on b12
  replace r8 := r8.on b12
  replace r9 := r9.on b12
  go_wp2_with (fail)
  refine (eqByteS_any pr6 pr10 n1 n1 cr6 cr10 xs1 xs1 _ (by omega) r6.len r10.len r6.bytes r10.bytes).mono ?_
  rintro e w13 ⟨rfl, b13⟩
  have k13 : Below w.heap.size w w13 := below_on k12 b13
  have z13 := b13.size
  replace r1 := r1.on b13
  replace r2 := r2.on b13
  replace r3 := r3.on b13
  replace r4 := r4.on b13
  replace r5 := r5.on b13
  replace r6 := r6.on b13
  replace r7 := r7.on b13
  replace r8 := r8.on b13
  replace r9 := r9.on b13
  replace r10 := r10.on b13
  go_wp2_with (fail)
  refine (toByteS_own p2 n2 q2 xs2 _ hn2 hx2 (in_below h2 k13)).mono ?_
  rintro e w14 ⟨pr11, cr11, rfl, r11, b14⟩
  have k14 : Below w.heap.size w w14 := below_on k13 b14
  have z14 := b14.size
  replace r1 := r1.on b14
  replace r2 := r2.on b14
  replace r3 := r3.on b14
  replace r4 := r4.on b14
  replace r5 := r5.on b14
  replace r6 := r6.on b14
  replace r7 := r7.on b14
  replace r8 := r8.on b14
  replace r9 := r9.on b14
  replace r10 := r10.on b14
  go_wp2_with (fail)
  refine (eqByteS_any pr7 pr11 n2 n2 cr7 cr11 xs2 xs2 _ (by omega) r7.len r11.len r7.bytes r11.bytes).mono ?_
  rintro e w15 ⟨rfl, b15⟩
  have k15 : Below w.heap.size w w15 := below_on k14 b15
  have z15 := b15.size
  replace r1 := r1.on b15
  replace r2 := r2.on b15
  replace r3 := r3.on b15
  replace r4 := r4.on b15
  replace r5 := r5.on b15
  replace r6 := r6.on b15
  replace r7 := r7.on b15
  replace r8 := r8.on b15
  replace r9 := r9.on b15
  replace r10 := r10.on b15
  replace r11 := r11.on b15
  go_wp2_with (fail)
  refine (markByteS_own _ _ pr5 n0 cr5 xs0 1 _ (by omega) (by omega) (by omega) r5).mono ?_
  rintro e w16 ⟨rfl, m16, g16⟩
  have k16 : Below w.heap.size w w16 := below_mark k15 g16 r5 (by omega)
  have z16 := g16.size
  replace r1 := r1.far g16 r5 (by omega)
  replace r2 := r2.far g16 r5 (by omega)
  replace r3 := r3.far g16 r5 (by omega)
  replace r4 := r4.far g16 r5 (by omega)
  replace r6 := r6.far g16 r5 (by omega)
  replace r7 := r7.far g16 r5 (by omega)
  replace r8 := r8.far g16 r5 (by omega)
  replace r9 := r9.far g16 r5 (by omega)
  replace r10 := r10.far g16 r5 (by omega)
  replace r11 := r11.far g16 r5 (by omega)
  clear r5 g16
  have r5 := m16
  clear m16
  go_wp2_with (fail)
  refine (markByteS_own _ _ pr6 n1 cr6 xs1 (1 + (n0 : Int)) _ (by omega) (by omega) (by omega) r6).mono ?_
  rintro e w17 ⟨rfl, m17, g17⟩
  have k17 : Below w.heap.size w w17 := below_mark k16 g17 r6 (by omega)
  have z17 := g17.size
  replace r1 := r1.far g17 r6 (by omega)
  replace r2 := r2.far g17 r6 (by omega)
  replace r3 := r3.far g17 r6 (by omega)
  replace r4 := r4.far g17 r6 (by omega)
  replace r5 := r5.far g17 r6 (by omega)
  replace r7 := r7.far g17 r6 (by omega)
  replace r8 := r8.far g17 r6 (by omega)
  replace r9 := r9.far g17 r6 (by omega)
  replace r10 := r10.far g17 r6 (by omega)
  replace r11 := r11.far g17 r6 (by omega)
  clear r6 g17
  have r6 := m17
  clear m17
  go_wp2_with (fail)
  refine (markByteS_own _ _ pr7 n2 cr7 xs2 ((1 + (n0 : Int)) + (n1 : Int)) _ (by omega) (by omega) (by omega) r7).mono ?_
  rintro e w18 ⟨rfl, m18, g18⟩
  have k18 : Below w.heap.size w w18 := below_mark k17 g18 r7 (by omega)
  have z18 := g18.size
  replace r1 := r1.far g18 r7 (by omega)
  replace r2 := r2.far g18 r7 (by omega)
  replace r3 := r3.far g18 r7 (by omega)
  replace r4 := r4.far g18 r7 (by omega)
  replace r5 := r5.far g18 r7 (by omega)
  replace r6 := r6.far g18 r7 (by omega)
  replace r8 := r8.far g18 r7 (by omega)
  replace r9 := r9.far g18 r7 (by omega)
  replace r10 := r10.far g18 r7 (by omega)
  replace r11 := r11.far g18 r7 (by omega)
  clear r7 g18
  have r7 := m18
  clear m18
  go_wp2_with (fail)
  refine (eqByteS_any pr8 pr4 (strS xs0 count xs1 xs2).length (strS xs0 count xs1 xs2).length cr8 cr4 (strS xs0 count xs1 xs2) (strS xs0 count xs1 xs2) _ (by omega) r8.len r4.len r8.bytes r4.bytes).mono ?_
  rintro e w19 ⟨rfl, b19⟩
  have k19 : Below w.heap.size w w19 := below_on k18 b19
  have z19 := b19.size
  replace r1 := r1.on b19
  replace r2 := r2.on b19
  replace r3 := r3.on b19
  replace r4 := r4.on b19
  replace r5 := r5.on b19
  replace r6 := r6.on b19
  replace r7 := r7.on b19
  replace r8 := r8.on b19
  replace r9 := r9.on b19
  replace r10 := r10.on b19
  replace r11 := r11.on b19
  go_wp2_with (fail)
  refine (markByteS_own _ _ pr8 (strS xs0 count xs1 xs2).length cr8 (strS xs0 count xs1 xs2) 1 _ (by omega) (by omega) (by omega) r8).mono ?_
  rintro e w20 ⟨rfl, m20, g20⟩
  have k20 : Below w.heap.size w w20 := below_mark k19 g20 r8 (by omega)
  have z20 := g20.size
  replace r1 := r1.far g20 r8 (by omega)
  replace r2 := r2.far g20 r8 (by omega)
  replace r3 := r3.far g20 r8 (by omega)
  replace r4 := r4.far g20 r8 (by omega)
  replace r5 := r5.far g20 r8 (by omega)
  replace r6 := r6.far g20 r8 (by omega)
  replace r7 := r7.far g20 r8 (by omega)
  replace r9 := r9.far g20 r8 (by omega)
  replace r10 := r10.far g20 r8 (by omega)
  replace r11 := r11.far g20 r8 (by omega)
  clear r8 g20
  have r8 := m20
  clear m20
  go_wp2_with (fail)
  refine (heldByteS_any pr8 (strS xs0 count xs1 xs2).length cr8 1 _ (by omega) (by omega) (by omega) r8.bytes).mono ?_
  rintro e w21 ⟨rfl, b21⟩
  have k21 : Below w.heap.size w w21 := below_on k20 b21
  have z21 := b21.size
  replace r1 := r1.on b21
  replace r2 := r2.on b21
  replace r3 := r3.on b21
  replace r4 := r4.on b21
  replace r5 := r5.on b21
  replace r6 := r6.on b21
  replace r7 := r7.on b21
  replace r8 := r8.on b21
  replace r9 := r9.on b21
  replace r10 := r10.on b21
  replace r11 := r11.on b21
  go_wp2_with (fail)
  refine (toByteS_own p0 n0 q0 xs0 _ hn0 hx0 (in_below h0 k21)).mono ?_
  rintro e w22 ⟨pr12, cr12, rfl, r12, b22⟩
  have k22 : Below w.heap.size w w22 := below_on k21 b22
  have z22 := b22.size
  replace r1 := r1.on b22
  replace r2 := r2.on b22
  replace r3 := r3.on b22
  replace r4 := r4.on b22
  replace r5 := r5.on b22
  replace r6 := r6.on b22
  replace r7 := r7.on b22
  replace r8 := r8.on b22
  replace r9 := r9.on b22
  replace r10 := r10.on b22
  replace r11 := r11.on b22
  go_wp2_with (fail)
  refine (toByteS_own p1 n1 q1 xs1 _ hn1 hx1 (in_below h1 k22)).mono ?_
  rintro e w23 ⟨pr13, cr13, rfl, r13, b23⟩
  have k23 : Below w.heap.size w w23 := below_on k22 b23
  have z23 := b23.size
  replace r1 := r1.on b23
  replace r2 := r2.on b23
  replace r3 := r3.on b23
  replace r4 := r4.on b23
  replace r5 := r5.on b23
  replace r6 := r6.on b23
  replace r7 := r7.on b23
  replace r8 := r8.on b23
  replace r9 := r9.on b23
  replace r10 := r10.on b23
  replace r11 := r11.on b23
  replace r12 := r12.on b23
  go_wp2_with (fail)
  refine (toByteS_own p2 n2 q2 xs2 _ hn2 hx2 (in_below h2 k23)).mono ?_
  rintro e w24 ⟨pr14, cr14, rfl, r14, b24⟩
  have k24 : Below w.heap.size w w24 := below_on k23 b24
  have z24 := b24.size
  replace r1 := r1.on b24
  replace r2 := r2.on b24
  replace r3 := r3.on b24
  replace r4 := r4.on b24
  replace r5 := r5.on b24
  replace r6 := r6.on b24
  replace r7 := r7.on b24
  replace r8 := r8.on b24
  replace r9 := r9.on b24
  replace r10 := r10.on b24
  replace r11 := r11.on b24
  replace r12 := r12.on b24
  replace r13 := r13.on b24
  go_wp2_with (fail)
  refine (implStream_own pr12 pr13 pr14 n0 n1 n2 cr12 cr13 cr14 count xs0 xs1 xs2 _ hn0 hn1 hn2 r12.cap r13.cap r14.cap hK r12.len r13.len r14.len r12.bytes r13.bytes r14.bytes hb0 hb1 hb2).mono ?_
  rintro e w25 ⟨pr15, cr15, rfl, r15, b25⟩
  have k25 : Below w.heap.size w w25 := below_on k24 b25
  have z25 := b25.size
  replace r1 := r1.on b25
  replace r2 := r2.on b25
  replace r3 := r3.on b25
  replace r4 := r4.on b25
  replace r5 := r5.on b25
  replace r6 := r6.on b25
  replace r7 := r7.on b25
  replace r8 := r8.on b25
  replace r9 := r9.on b25
  replace r10 := r10.on b25
  replace r11 := r11.on b25
  replace r12 := r12.on b25
  replace r13 := r13.on b25
  replace r14 := r14.on b25
  go_wp2_with (fail)
  refine (eqByteS_any pr15 pr4 (strS xs0 count xs1 xs2).length (strS xs0 count xs1 xs2).length cr15 cr4 (strS xs0 count xs1 xs2) (strS xs0 count xs1 xs2) _ (by omega) r15.len r4.len r15.bytes r4.bytes).mono ?_
  rintro e w26 ⟨rfl, b26⟩
  have k26 : Below w.heap.size w w26 := below_on k25 b26
  have z26 := b26.size
  replace r1 := r1.on b26
  replace r2 := r2.on b26
  replace r3 := r3.on b26
  replace r4 := r4.on b26
  replace r5 := r5.on b26
  replace r6 := r6.on b26
  replace r7 := r7.on b26
  replace r8 := r8.on b26
  replace r9 := r9.on b26
  replace r10 := r10.on b26
  replace r11 := r11.on b26
  replace r12 := r12.on b26
  replace r13 := r13.on b26
  replace r14 := r14.on b26
  replace r15 := r15.on b26
  go_wp2_with (fail)
  refine (heldByteS_any pr8 (strS xs0 count xs1 xs2).length cr8 1 _ (by omega) (by omega) (by omega) r8.bytes).mono ?_
  rintro e w27 ⟨rfl, b27⟩
  have k27 : Below w.heap.size w w27 := below_on k26 b27
  have z27 := b27.size
  replace r1 := r1.on b27
  replace r2 := r2.on b27
  replace r3 := r3.on b27
  replace r4 := r4.on b27
  replace r5 := r5.on b27
  replace r6 := r6.on b27
  replace r7 := r7.on b27
  replace r8 := r8.on b27
  replace r9 := r9.on b27
  replace r10 := r10.on b27
  replace r11 := r11.on b27
  replace r12 := r12.on b27
  replace r13 := r13.on b27
  replace r14 := r14.on b27
  replace r15 := r15.on b27
  go_wp2_with (fail)
  go_ret
  exact ⟨rfl, k27⟩

theorem stream_law (p0 p1 p2 : Option Addr) (n0 q0 n1 q1 n2 q2 : Nat) (count : Int) (xs0 xs1 xs2 : List Int) (w : World) (hx0 : xs0.length = n0) (h0 : BytesIn w p0 n0 xs0) (hb0 : ∀ x ∈ xs0, 0 ≤ x ∧ x < 256) (hx1 : xs1.length = n1) (h1 : BytesIn w p1 n1 xs1) (hb1 : ∀ x ∈ xs1, 0 ≤ x ∧ x < 256) (hx2 : xs2.length = n2) (h2 : BytesIn w p2 n2 xs2) (hb2 : ∀ x ∈ xs2, 0 ≤ x ∧ x < 256) (hK : CtOk count w) :
    Calls Altd.prog 5 #[.slice p0 n0 q0, .int .i64 count, .slice p1 n1 q1, .slice p2 n2 q2] w fun e w' => e = .returned (.bool true) ∧ Below w.heap.size w w' := by
  by_cases hn0 : n0 ≤ 1048576
  · by_cases hn1 : n1 ≤ 1048576
    · by_cases hn2 : n2 ≤ 1048576
      · exact stream_small p0 p1 p2 n0 q0 n1 q1 n2 q2 count xs0 xs1 xs2 w hn0 hn1 hn2 hx0 h0 hb0 hx1 h1 hb1 hx2 h2 hb2 hK
      · have d2 : (1048576 : Int) < (n2 : Int) := by omega
        have d0 : ¬ (1048576 : Int) < (n0 : Int) := by omega
        have d1 : ¬ (1048576 : Int) < (n1 : Int) := by omega
        clear hx0 h0 hb0 hx1 h1 hb1 hx2 h2 hb2 hK
        go_enter Altd.func5, Altd.ntmps5
        go_wp2
        go_ret
        exact ⟨rfl, Below.refl _ _⟩
    · have d1 : (1048576 : Int) < (n1 : Int) := by omega
      have d0 : ¬ (1048576 : Int) < (n0 : Int) := by omega
      clear hx0 h0 hb0 hx1 h1 hb1 hx2 h2 hb2 hK
      go_enter Altd.func5, Altd.ntmps5
      go_wp2
      go_ret
      exact ⟨rfl, Below.refl _ _⟩
  · have d0 : (1048576 : Int) < (n0 : Int) := by omega
    clear hx0 h0 hb0 hx1 h1 hb1 hx2 h2 hb2 hK
    go_enter Altd.func5, Altd.ntmps5
    go_wp2
    go_ret
    exact ⟨rfl, Below.refl _ _⟩

end Go.Proofs.YtepbidaoloplbaaDoor.Alt
