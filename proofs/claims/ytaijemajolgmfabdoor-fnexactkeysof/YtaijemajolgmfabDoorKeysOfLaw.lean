/-
  FnExactKeysOf returns true for any lists and numbers, and writes nothing that was there; conditions: bytes all, and the table is as its text says.
-/
import Derived.Test.YtaijemajolgmfabDoorTo
import Derived.Test.YtaijemajolgmfabDoorMarks
import Derived.Test.YtaijemajolgmfabDoorEq
import Derived.Test.YtaijemajolgmfabDoorKeysOf
import Derived.Test.YtaijemajolgmfabDoorLetKeys
namespace Go.Proofs.YtaijemajolgmfabDoor
open Go.RowKit

set_option maxHeartbeats 8000000 in
theorem keysOf_small (p0 p1 p2 : Option Addr) (n0 q0 n1 q1 n2 q2 : Nat) (xs0 xs1 xs2 : List Int) (w : World) (hn0 : n0 ≤ 1048576) (hn1 : n1 ≤ 1048576) (hn2 : n2 ≤ 1048576) (hx0 : xs0.length = n0) (h0 : BytesIn w p0 n0 xs0) (hb0 : ∀ x ∈ xs0, 0 ≤ x ∧ x < 256) (hx1 : xs1.length = n1) (h1 : BytesIn w p1 n1 xs1) (hb1 : ∀ x ∈ xs1, 0 ≤ x ∧ x < 256) (hx2 : xs2.length = n2) (h2 : BytesIn w p2 n2 xs2) (hb2 : ∀ x ∈ xs2, 0 ≤ x ∧ x < 256) (hK : KeysIs w) :
    Calls Tryd.prog 3 #[.slice p0 n0 q0, .slice p1 n1 q1, .slice p2 n2 q2] w fun e w' => e = .returned (.bool true) ∧ Below w.heap.size w w' := by
  have c0 : ¬ (1048576 : Int) < (n0 : Int) := by omega
  have c1 : ¬ (1048576 : Int) < (n1 : Int) := by omega
  have c2 : ¬ (1048576 : Int) < (n2 : Int) := by omega
  obtain ⟨KN, CN, hkn, hcn, CS, CI⟩ : ∃ KN CN : Nat, KN ≤ 32 ∧ CN ≤ 12 ∧ (∀ (p0 p1 p2 : Option Addr) (q0 q1 q2 : Nat) (X : World), BytesIn X p0 n0 xs0 → BytesIn X p1 n1 xs1 → BytesIn X p2 n2 xs2 → Calls Tryd.prog 4 #[.slice p0 n0 q0, .slice p1 n1 q1, .slice p2 n2 q2] X fun e w' => ∃ p c q d, e = .returned (.tuple #[.slice p KN c, .slice q CN d]) ∧ Pair w' X.heap.size p q c d KN CN (kyL xs0 xs1 xs2) (ncL xs0 xs1 xs2) ∧ Below X.heap.size X w') ∧ (∀ (p0 p1 p2 : Option Addr) (q0 q1 q2 : Nat) (X : World), BytesIn X p0 n0 xs0 → BytesIn X p1 n1 xs1 → BytesIn X p2 n2 xs2 → KeysIs X → Calls Tryd.prog 6 #[.slice p0 n0 q0, .slice p1 n1 q1, .slice p2 n2 q2] X fun e w' => ∃ p c q d, e = .returned (.tuple #[.slice p KN c, .slice q CN d]) ∧ Pair w' X.heap.size p q c d KN CN (kyL xs0 xs1 xs2) (ncL xs0 xs1 xs2) ∧ Below X.heap.size X w') := ⟨32, 12, Nat.le_refl _, Nat.le_refl _, fun p0 p1 p2 q0 q1 q2 X i0 i1 i2 => specKeys_any p0 p1 p2 n0 n1 n2 q0 q1 q2 xs0 xs1 xs2 X hn1 hn2 hx0 hx1 hx2 i0 i1 i2 hb0 hb1 hb2, fun p0 p1 p2 q0 q1 q2 X i0 i1 i2 hK => implKeys_any p0 p1 p2 n0 n1 n2 q0 q1 q2 xs0 xs1 xs2 X hn1 hn2 hx0 hx1 hx2 i0 i1 i2 hb0 hb1 hb2 hK⟩
  generalize kyL xs0 xs1 xs2 = KL at CS CI
  generalize ncL xs0 xs1 xs2 = CL at CS CI
  go_enter Tryd.func3, Tryd.ntmps3
  go_wp2_with (fail)
  refine (toByteS_own p0 n0 q0 xs0 _ hn0 hx0 h0).mono ?_
  rintro e w1 ⟨pr1, cr1, rfl, r1, b1⟩
  have k1 : Below w.heap.size w w1 := below_on (Below.refl _ _) b1
  have z1 := b1.size
  go_wp2_with (fail)
  refine (toByteS_own p1 n1 q1 xs1 _ hn1 hx1 (in_below h1 k1)).mono ?_
  rintro e w2 ⟨pr2, cr2, rfl, r2, b2⟩
  have k2 : Below w.heap.size w w2 := below_on k1 b2
  have z2 := b2.size
  replace r1 := r1.on b2
  go_wp2_with (fail)
  refine (toByteS_own p2 n2 q2 xs2 _ hn2 hx2 (in_below h2 k2)).mono ?_
  rintro e w3 ⟨pr3, cr3, rfl, r3, b3⟩
  have k3 : Below w.heap.size w w3 := below_on k2 b3
  have z3 := b3.size
  replace r1 := r1.on b3
  replace r2 := r2.on b3
  go_wp2_with (fail)
  refine (CS pr1 pr2 pr3 cr1 cr2 cr3 _ r1.bytes r2.bytes r3.bytes).mono ?_
  rintro e w4 ⟨pr4a, cr4a, pr4b, cr4b, rfl, ⟨lr4a, hr4a, lr4b, hr4b, r4a, r4b, ur4a, ur4b, ur4d⟩, b4⟩
  have k4 : Below w.heap.size w w4 := below_on k3 b4
  have z4 := b4.size
  replace r1 := r1.on b4
  replace r2 := r2.on b4
  replace r3 := r3.on b4
  go_wp2_with (fail)
  refine (toByteS_own p0 n0 q0 xs0 _ hn0 hx0 (in_below h0 k4)).mono ?_
  rintro e w5 ⟨pr5, cr5, rfl, r5, b5⟩
  have k5 : Below w.heap.size w w5 := below_on k4 b5
  have z5 := b5.size
  replace r1 := r1.on b5
  replace r2 := r2.on b5
  replace r3 := r3.on b5
  replace r4a := r4a.on b5
  replace r4b := r4b.on b5
  go_wp2_with (fail)
  refine (toByteS_own p1 n1 q1 xs1 _ hn1 hx1 (in_below h1 k5)).mono ?_
  rintro e w6 ⟨pr6, cr6, rfl, r6, b6⟩
  have k6 : Below w.heap.size w w6 := below_on k5 b6
  have z6 := b6.size
  replace r1 := r1.on b6
  replace r2 := r2.on b6
  replace r3 := r3.on b6
  replace r4a := r4a.on b6
  replace r4b := r4b.on b6
  replace r5 := r5.on b6
  go_wp2_with (fail)
  refine (toByteS_own p2 n2 q2 xs2 _ hn2 hx2 (in_below h2 k6)).mono ?_
  rintro e w7 ⟨pr7, cr7, rfl, r7, b7⟩
  have k7 : Below w.heap.size w w7 := below_on k6 b7
  have z7 := b7.size
  replace r1 := r1.on b7
  replace r2 := r2.on b7
  replace r3 := r3.on b7
  replace r4a := r4a.on b7
  replace r4b := r4b.on b7
  replace r5 := r5.on b7
  replace r6 := r6.on b7
  go_wp2_with (fail)
  refine (CI pr5 pr6 pr7 cr5 cr6 cr7 _ r5.bytes r6.bytes r7.bytes (keys_below hK k7)).mono ?_
  rintro e w8 ⟨pr8a, cr8a, pr8b, cr8b, rfl, ⟨lr8a, hr8a, lr8b, hr8b, r8a, r8b, ur8a, ur8b, ur8d⟩, b8⟩
  have k8 : Below w.heap.size w w8 := below_on k7 b8
  have z8 := b8.size
  replace r1 := r1.on b8
  replace r2 := r2.on b8
  replace r3 := r3.on b8
  replace r4a := r4a.on b8
  replace r4b := r4b.on b8
  replace r5 := r5.on b8
  replace r6 := r6.on b8
  replace r7 := r7.on b8
  go_wp2_with (fail)
  refine (eqByteS_any pr8a pr4a KN KN cr8a cr4a KL KL _ (by omega) r8a.len r4a.len r8a.bytes r4a.bytes).mono ?_
  rintro e w9 ⟨rfl, b9⟩
  have k9 : Below w.heap.size w w9 := below_on k8 b9
  have z9 := b9.size
  replace r1 := r1.on b9
  replace r2 := r2.on b9
  replace r3 := r3.on b9
  replace r4a := r4a.on b9
  replace r4b := r4b.on b9
  replace r5 := r5.on b9
  replace r6 := r6.on b9
  replace r7 := r7.on b9
  replace r8a := r8a.on b9
  replace r8b := r8b.on b9
  go_wp2_with (fail)
  refine (eqByteS_any pr8b pr4b CN CN cr8b cr4b CL CL _ (by omega) r8b.len r4b.len r8b.bytes r4b.bytes).mono ?_
  rintro e w10 ⟨rfl, b10⟩
  have k10 : Below w.heap.size w w10 := below_on k9 b10
  have z10 := b10.size
  replace r1 := r1.on b10
  replace r2 := r2.on b10
  replace r3 := r3.on b10
  replace r4a := r4a.on b10
  replace r4b := r4b.on b10
  replace r5 := r5.on b10
  replace r6 := r6.on b10
  replace r7 := r7.on b10
  replace r8a := r8a.on b10
  replace r8b := r8b.on b10
  go_wp2_with (fail)
  refine (toByteS_own p0 n0 q0 xs0 _ hn0 hx0 (in_below h0 k10)).mono ?_
  rintro e w11 ⟨pr9, cr9, rfl, r9, b11⟩
  have k11 : Below w.heap.size w w11 := below_on k10 b11
  have z11 := b11.size
  replace r1 := r1.on b11
  replace r2 := r2.on b11
  replace r3 := r3.on b11
  replace r4a := r4a.on b11
  replace r4b := r4b.on b11
  replace r5 := r5.on b11
  replace r6 := r6.on b11
  replace r7 := r7.on b11
  replace r8a := r8a.on b11
  replace r8b := r8b.on b11
  go_wp2_with (fail)
  refine (eqByteS_any pr5 pr9 n0 n0 cr5 cr9 xs0 xs0 _ (by omega) r5.len r9.len r5.bytes r9.bytes).mono ?_
  rintro e w12 ⟨rfl, b12⟩
  have k12 : Below w.heap.size w w12 := below_on k11 b12
  have z12 := b12.size
  replace r1 := r1.on b12
  replace r2 := r2.on b12
  replace r3 := r3.on b12
  replace r4a := r4a.on b12
  replace r4b := r4b.on b12
  replace r5 := r5.on b12
  replace r6 := r6.on b12
  replace r7 := r7.on b12
  replace r8a := r8a.on b12
  replace r8b := r8b.on b12
  replace r9 := r9.on b12
  go_wp2_with (fail)
  refine (toByteS_own p1 n1 q1 xs1 _ hn1 hx1 (in_below h1 k12)).mono ?_
  rintro e w13 ⟨pr10, cr10, rfl, r10, b13⟩
  have k13 : Below w.heap.size w w13 := below_on k12 b13
  have z13 := b13.size
  replace r1 := r1.on b13
  replace r2 := r2.on b13
  replace r3 := r3.on b13
  replace r4a := r4a.on b13
  replace r4b := r4b.on b13
  replace r5 := r5.on b13
  replace r6 := r6.on b13
  replace r7 := r7.on b13
  replace r8a := r8a.on b13
  replace r8b := r8b.on b13
  replace r9 := r9.on b13
  go_wp2_with (fail)
  refine (eqByteS_any pr6 pr10 n1 n1 cr6 cr10 xs1 xs1 _ (by omega) r6.len r10.len r6.bytes r10.bytes).mono ?_
  rintro e w14 ⟨rfl, b14⟩
  have k14 : Below w.heap.size w w14 := below_on k13 b14
  have z14 := b14.size
  replace r1 := r1.on b14
  replace r2 := r2.on b14
  replace r3 := r3.on b14
  replace r4a := r4a.on b14
  replace r4b := r4b.on b14
  replace r5 := r5.on b14
  replace r6 := r6.on b14
  replace r7 := r7.on b14
  replace r8a := r8a.on b14
  replace r8b := r8b.on b14
  replace r9 := r9.on b14
  replace r10 := r10.on b14
  go_wp2_with (fail)
  refine (toByteS_own p2 n2 q2 xs2 _ hn2 hx2 (in_below h2 k14)).mono ?_
  rintro e w15 ⟨pr11, cr11, rfl, r11, b15⟩
  have k15 : Below w.heap.size w w15 := below_on k14 b15
  have z15 := b15.size
  replace r1 := r1.on b15
  replace r2 := r2.on b15
  replace r3 := r3.on b15
  replace r4a := r4a.on b15
  replace r4b := r4b.on b15
  replace r5 := r5.on b15
  replace r6 := r6.on b15
  replace r7 := r7.on b15
  replace r8a := r8a.on b15
  replace r8b := r8b.on b15
  replace r9 := r9.on b15
  replace r10 := r10.on b15
  go_wp2_with (fail)
  refine (eqByteS_any pr7 pr11 n2 n2 cr7 cr11 xs2 xs2 _ (by omega) r7.len r11.len r7.bytes r11.bytes).mono ?_
  rintro e w16 ⟨rfl, b16⟩
  have k16 : Below w.heap.size w w16 := below_on k15 b16
  have z16 := b16.size
  replace r1 := r1.on b16
  replace r2 := r2.on b16
  replace r3 := r3.on b16
  replace r4a := r4a.on b16
  replace r4b := r4b.on b16
  replace r5 := r5.on b16
  replace r6 := r6.on b16
  replace r7 := r7.on b16
  replace r8a := r8a.on b16
  replace r8b := r8b.on b16
  replace r9 := r9.on b16
  replace r10 := r10.on b16
  replace r11 := r11.on b16
  go_wp2_with (fail)
  refine (markByteS_own _ _ pr5 n0 cr5 xs0 1 _ (by omega) (by omega) (by omega) r5).mono ?_
  rintro e w17 ⟨rfl, m17, g17⟩
  have k17 : Below w.heap.size w w17 := below_mark k16 g17 r5 (by omega)
  have z17 := g17.size
  replace r1 := r1.far g17 r5 (by omega)
  replace r2 := r2.far g17 r5 (by omega)
  replace r3 := r3.far g17 r5 (by omega)
  replace r4a := r4a.far g17 r5 (by omega)
  replace r4b := r4b.far g17 r5 (by omega)
  replace r6 := r6.far g17 r5 (by omega)
  replace r7 := r7.far g17 r5 (by omega)
  replace r8a := r8a.far g17 r5 (by omega)
  replace r8b := r8b.far g17 r5 (by omega)
  replace r9 := r9.far g17 r5 (by omega)
  replace r10 := r10.far g17 r5 (by omega)
  replace r11 := r11.far g17 r5 (by omega)
  clear r5 g17
  have r5 := m17
  clear m17
  go_wp2_with (fail)
  refine (markByteS_own _ _ pr6 n1 cr6 xs1 (1 + (n0 : Int)) _ (by omega) (by omega) (by omega) r6).mono ?_
  rintro e w18 ⟨rfl, m18, g18⟩
  have k18 : Below w.heap.size w w18 := below_mark k17 g18 r6 (by omega)
  have z18 := g18.size
  replace r1 := r1.far g18 r6 (by omega)
  replace r2 := r2.far g18 r6 (by omega)
  replace r3 := r3.far g18 r6 (by omega)
  replace r4a := r4a.far g18 r6 (by omega)
  replace r4b := r4b.far g18 r6 (by omega)
  replace r5 := r5.far g18 r6 (by omega)
  replace r7 := r7.far g18 r6 (by omega)
  replace r8a := r8a.far g18 r6 (by omega)
  replace r8b := r8b.far g18 r6 (by omega)
  replace r9 := r9.far g18 r6 (by omega)
  replace r10 := r10.far g18 r6 (by omega)
  replace r11 := r11.far g18 r6 (by omega)
  clear r6 g18
  have r6 := m18
  clear m18
  go_wp2_with (fail)
  refine (markByteS_own _ _ pr7 n2 cr7 xs2 ((1 + (n0 : Int)) + (n1 : Int)) _ (by omega) (by omega) (by omega) r7).mono ?_
  rintro e w19 ⟨rfl, m19, g19⟩
  have k19 : Below w.heap.size w w19 := below_mark k18 g19 r7 (by omega)
  have z19 := g19.size
  replace r1 := r1.far g19 r7 (by omega)
  replace r2 := r2.far g19 r7 (by omega)
  replace r3 := r3.far g19 r7 (by omega)
  replace r4a := r4a.far g19 r7 (by omega)
  replace r4b := r4b.far g19 r7 (by omega)
  replace r5 := r5.far g19 r7 (by omega)
  replace r6 := r6.far g19 r7 (by omega)
  replace r8a := r8a.far g19 r7 (by omega)
  replace r8b := r8b.far g19 r7 (by omega)
  replace r9 := r9.far g19 r7 (by omega)
  replace r10 := r10.far g19 r7 (by omega)
  replace r11 := r11.far g19 r7 (by omega)
  clear r7 g19
  have r7 := m19
  clear m19
  go_wp2_with (fail)
  refine (eqByteS_any pr8a pr4a KN KN cr8a cr4a KL KL _ (by omega) r8a.len r4a.len r8a.bytes r4a.bytes).mono ?_
  rintro e w20 ⟨rfl, b20⟩
  have k20 : Below w.heap.size w w20 := below_on k19 b20
  have z20 := b20.size
  replace r1 := r1.on b20
  replace r2 := r2.on b20
  replace r3 := r3.on b20
  replace r4a := r4a.on b20
  replace r4b := r4b.on b20
  replace r5 := r5.on b20
  replace r6 := r6.on b20
  replace r7 := r7.on b20
  replace r8a := r8a.on b20
  replace r8b := r8b.on b20
  replace r9 := r9.on b20
  replace r10 := r10.on b20
  replace r11 := r11.on b20
  go_wp2_with (fail)
  refine (eqByteS_any pr8b pr4b CN CN cr8b cr4b CL CL _ (by omega) r8b.len r4b.len r8b.bytes r4b.bytes).mono ?_
  rintro e w21 ⟨rfl, b21⟩
  have k21 : Below w.heap.size w w21 := below_on k20 b21
  have z21 := b21.size
  replace r1 := r1.on b21
  replace r2 := r2.on b21
  replace r3 := r3.on b21
  replace r4a := r4a.on b21
  replace r4b := r4b.on b21
  replace r5 := r5.on b21
  replace r6 := r6.on b21
  replace r7 := r7.on b21
  replace r8a := r8a.on b21
  replace r8b := r8b.on b21
  replace r9 := r9.on b21
  replace r10 := r10.on b21
  replace r11 := r11.on b21
  go_wp2_with (fail)
  refine (markByteS_own _ _ pr8a KN cr8a KL 1 _ (by omega) (by omega) (by omega) r8a).mono ?_
  rintro e w22 ⟨rfl, m22, g22⟩
  have k22 : Below w.heap.size w w22 := below_mark k21 g22 r8a (by omega)
  have z22 := g22.size
  replace r1 := r1.far g22 r8a (by omega)
  replace r2 := r2.far g22 r8a (by omega)
  replace r3 := r3.far g22 r8a (by omega)
  replace r4a := r4a.far g22 r8a (by omega)
  replace r4b := r4b.far g22 r8a (by omega)
  replace r5 := r5.far g22 r8a (by omega)
  replace r6 := r6.far g22 r8a (by omega)
  replace r7 := r7.far g22 r8a (by omega)
  replace r8b := r8b.far g22 r8a (by omega)
  replace r9 := r9.far g22 r8a (by omega)
  replace r10 := r10.far g22 r8a (by omega)
  replace r11 := r11.far g22 r8a (by omega)
  clear r8a g22
  have r8a := m22
  clear m22
  go_wp2_with (fail)
  refine (markByteS_own _ _ pr8b CN cr8b CL (1 + (KN : Int)) _ (by omega) (by omega) (by omega) r8b).mono ?_
  rintro e w23 ⟨rfl, m23, g23⟩
  have k23 : Below w.heap.size w w23 := below_mark k22 g23 r8b (by omega)
  have z23 := g23.size
  replace r1 := r1.far g23 r8b (by omega)
  replace r2 := r2.far g23 r8b (by omega)
  replace r3 := r3.far g23 r8b (by omega)
  replace r4a := r4a.far g23 r8b (by omega)
  replace r4b := r4b.far g23 r8b (by omega)
  replace r5 := r5.far g23 r8b (by omega)
  replace r6 := r6.far g23 r8b (by omega)
  replace r7 := r7.far g23 r8b (by omega)
  replace r8a := r8a.far g23 r8b (by omega)
  replace r9 := r9.far g23 r8b (by omega)
  replace r10 := r10.far g23 r8b (by omega)
  replace r11 := r11.far g23 r8b (by omega)
  clear r8b g23
  have r8b := m23
  clear m23
  go_wp2_with (fail)
  refine (heldByteS_any pr8a KN cr8a 1 _ (by omega) (by omega) (by omega) r8a.bytes).mono ?_
  rintro e w24 ⟨rfl, b24⟩
  have k24 : Below w.heap.size w w24 := below_on k23 b24
  have z24 := b24.size
  replace r1 := r1.on b24
  replace r2 := r2.on b24
  replace r3 := r3.on b24
  replace r4a := r4a.on b24
  replace r4b := r4b.on b24
  replace r5 := r5.on b24
  replace r6 := r6.on b24
  replace r7 := r7.on b24
  replace r8a := r8a.on b24
  replace r8b := r8b.on b24
  replace r9 := r9.on b24
  replace r10 := r10.on b24
  replace r11 := r11.on b24
  go_wp2_with (fail)
  refine (heldByteS_any pr8b CN cr8b (1 + (KN : Int)) _ (by omega) (by omega) (by omega) r8b.bytes).mono ?_
  rintro e w25 ⟨rfl, b25⟩
  have k25 : Below w.heap.size w w25 := below_on k24 b25
  have z25 := b25.size
  replace r1 := r1.on b25
  replace r2 := r2.on b25
  replace r3 := r3.on b25
  replace r4a := r4a.on b25
  replace r4b := r4b.on b25
  replace r5 := r5.on b25
  replace r6 := r6.on b25
  replace r7 := r7.on b25
  replace r8a := r8a.on b25
  replace r8b := r8b.on b25
  replace r9 := r9.on b25
  replace r10 := r10.on b25
  replace r11 := r11.on b25
  go_wp2_with (fail)
  refine (toByteS_own p0 n0 q0 xs0 _ hn0 hx0 (in_below h0 k25)).mono ?_
  rintro e w26 ⟨pr12, cr12, rfl, r12, b26⟩
  have k26 : Below w.heap.size w w26 := below_on k25 b26
  have z26 := b26.size
  replace r1 := r1.on b26
  replace r2 := r2.on b26
  replace r3 := r3.on b26
  replace r4a := r4a.on b26
  replace r4b := r4b.on b26
  replace r5 := r5.on b26
  replace r6 := r6.on b26
  replace r7 := r7.on b26
  replace r8a := r8a.on b26
  replace r8b := r8b.on b26
  replace r9 := r9.on b26
  replace r10 := r10.on b26
  replace r11 := r11.on b26
  go_wp2_with (fail)
  refine (toByteS_own p1 n1 q1 xs1 _ hn1 hx1 (in_below h1 k26)).mono ?_
  rintro e w27 ⟨pr13, cr13, rfl, r13, b27⟩
  have k27 : Below w.heap.size w w27 := below_on k26 b27
  have z27 := b27.size
  replace r1 := r1.on b27
  replace r2 := r2.on b27
  replace r3 := r3.on b27
  replace r4a := r4a.on b27
  replace r4b := r4b.on b27
  replace r5 := r5.on b27
  replace r6 := r6.on b27
  replace r7 := r7.on b27
  replace r8a := r8a.on b27
  replace r8b := r8b.on b27
  replace r9 := r9.on b27
  replace r10 := r10.on b27
  replace r11 := r11.on b27
  replace r12 := r12.on b27
  go_wp2_with (fail)
  refine (toByteS_own p2 n2 q2 xs2 _ hn2 hx2 (in_below h2 k27)).mono ?_
  rintro e w28 ⟨pr14, cr14, rfl, r14, b28⟩
  have k28 : Below w.heap.size w w28 := below_on k27 b28
  have z28 := b28.size
  replace r1 := r1.on b28
  replace r2 := r2.on b28
  replace r3 := r3.on b28
  replace r4a := r4a.on b28
  replace r4b := r4b.on b28
  replace r5 := r5.on b28
  replace r6 := r6.on b28
  replace r7 := r7.on b28
  replace r8a := r8a.on b28
  replace r8b := r8b.on b28
  replace r9 := r9.on b28
  replace r10 := r10.on b28
  replace r11 := r11.on b28
  replace r12 := r12.on b28
  replace r13 := r13.on b28
  go_wp2_with (fail)
  refine (CI pr12 pr13 pr14 cr12 cr13 cr14 _ r12.bytes r13.bytes r14.bytes (keys_below hK k28)).mono ?_
  rintro e w29 ⟨pr15a, cr15a, pr15b, cr15b, rfl, ⟨lr15a, hr15a, lr15b, hr15b, r15a, r15b, ur15a, ur15b, ur15d⟩, b29⟩
  have k29 : Below w.heap.size w w29 := below_on k28 b29
  have z29 := b29.size
  replace r1 := r1.on b29
  replace r2 := r2.on b29
  replace r3 := r3.on b29
  replace r4a := r4a.on b29
  replace r4b := r4b.on b29
  replace r5 := r5.on b29
  replace r6 := r6.on b29
  replace r7 := r7.on b29
  replace r8a := r8a.on b29
  replace r8b := r8b.on b29
  replace r9 := r9.on b29
  replace r10 := r10.on b29
  replace r11 := r11.on b29
  replace r12 := r12.on b29
  replace r13 := r13.on b29
  replace r14 := r14.on b29
  go_wp2_with (fail)
  refine (eqByteS_any pr15a pr4a KN KN cr15a cr4a KL KL _ (by omega) r15a.len r4a.len r15a.bytes r4a.bytes).mono ?_
  rintro e w30 ⟨rfl, b30⟩
  have k30 : Below w.heap.size w w30 := below_on k29 b30
  have z30 := b30.size
  replace r1 := r1.on b30
  replace r2 := r2.on b30
  replace r3 := r3.on b30
  replace r4a := r4a.on b30
  replace r4b := r4b.on b30
  replace r5 := r5.on b30
  replace r6 := r6.on b30
  replace r7 := r7.on b30
  replace r8a := r8a.on b30
  replace r8b := r8b.on b30
  replace r9 := r9.on b30
  replace r10 := r10.on b30
  replace r11 := r11.on b30
  replace r12 := r12.on b30
  replace r13 := r13.on b30
  replace r14 := r14.on b30
  replace r15a := r15a.on b30
  replace r15b := r15b.on b30
  go_wp2_with (fail)
  refine (eqByteS_any pr15b pr4b CN CN cr15b cr4b CL CL _ (by omega) r15b.len r4b.len r15b.bytes r4b.bytes).mono ?_
  rintro e w31 ⟨rfl, b31⟩
  have k31 : Below w.heap.size w w31 := below_on k30 b31
  have z31 := b31.size
  replace r1 := r1.on b31
  replace r2 := r2.on b31
  replace r3 := r3.on b31
  replace r4a := r4a.on b31
  replace r4b := r4b.on b31
  replace r5 := r5.on b31
  replace r6 := r6.on b31
  replace r7 := r7.on b31
  replace r8a := r8a.on b31
  replace r8b := r8b.on b31
  replace r9 := r9.on b31
  replace r10 := r10.on b31
  replace r11 := r11.on b31
  replace r12 := r12.on b31
  replace r13 := r13.on b31
  replace r14 := r14.on b31
  replace r15a := r15a.on b31
  replace r15b := r15b.on b31
  go_wp2_with (fail)
  refine (heldByteS_any pr8a KN cr8a 1 _ (by omega) (by omega) (by omega) r8a.bytes).mono ?_
  rintro e w32 ⟨rfl, b32⟩
  have k32 : Below w.heap.size w w32 := below_on k31 b32
  have z32 := b32.size
  replace r1 := r1.on b32
  replace r2 := r2.on b32
  replace r3 := r3.on b32
  replace r4a := r4a.on b32
  replace r4b := r4b.on b32
  replace r5 := r5.on b32
  replace r6 := r6.on b32
  replace r7 := r7.on b32
  replace r8a := r8a.on b32
  replace r8b := r8b.on b32
  replace r9 := r9.on b32
  replace r10 := r10.on b32
  replace r11 := r11.on b32
  replace r12 := r12.on b32
  replace r13 := r13.on b32
  replace r14 := r14.on b32
  replace r15a := r15a.on b32
  replace r15b := r15b.on b32
  go_wp2_with (fail)
  refine (heldByteS_any pr8b CN cr8b (1 + (KN : Int)) _ (by omega) (by omega) (by omega) r8b.bytes).mono ?_
  rintro e w33 ⟨rfl, b33⟩
  have k33 : Below w.heap.size w w33 := below_on k32 b33
  have z33 := b33.size
  replace r1 := r1.on b33
  replace r2 := r2.on b33
  replace r3 := r3.on b33
  replace r4a := r4a.on b33
  replace r4b := r4b.on b33
  replace r5 := r5.on b33
  replace r6 := r6.on b33
  replace r7 := r7.on b33
  replace r8a := r8a.on b33
  replace r8b := r8b.on b33
  replace r9 := r9.on b33
  replace r10 := r10.on b33
  replace r11 := r11.on b33
  replace r12 := r12.on b33
  replace r13 := r13.on b33
  replace r14 := r14.on b33
  replace r15a := r15a.on b33
  replace r15b := r15b.on b33
  go_wp2_with (fail)
  go_ret
  exact ⟨rfl, k33⟩

theorem keysOf_law (p0 p1 p2 : Option Addr) (n0 q0 n1 q1 n2 q2 : Nat) (xs0 xs1 xs2 : List Int) (w : World) (hx0 : xs0.length = n0) (h0 : BytesIn w p0 n0 xs0) (hb0 : ∀ x ∈ xs0, 0 ≤ x ∧ x < 256) (hx1 : xs1.length = n1) (h1 : BytesIn w p1 n1 xs1) (hb1 : ∀ x ∈ xs1, 0 ≤ x ∧ x < 256) (hx2 : xs2.length = n2) (h2 : BytesIn w p2 n2 xs2) (hb2 : ∀ x ∈ xs2, 0 ≤ x ∧ x < 256) (hK : KeysIs w) :
    Calls Tryd.prog 3 #[.slice p0 n0 q0, .slice p1 n1 q1, .slice p2 n2 q2] w fun e w' => e = .returned (.bool true) ∧ Below w.heap.size w w' := by
  by_cases hn0 : n0 ≤ 1048576
  · by_cases hn1 : n1 ≤ 1048576
    · by_cases hn2 : n2 ≤ 1048576
      · exact keysOf_small p0 p1 p2 n0 q0 n1 q1 n2 q2 xs0 xs1 xs2 w hn0 hn1 hn2 hx0 h0 hb0 hx1 h1 hb1 hx2 h2 hb2 hK
      · have d2 : (1048576 : Int) < (n2 : Int) := by omega
        have d0 : ¬ (1048576 : Int) < (n0 : Int) := by omega
        have d1 : ¬ (1048576 : Int) < (n1 : Int) := by omega
        clear hx0 h0 hb0 hx1 h1 hb1 hx2 h2 hb2 hK
        go_enter Tryd.func3, Tryd.ntmps3
        go_wp2
        go_ret
        exact ⟨rfl, Below.refl _ _⟩
    · have d1 : (1048576 : Int) < (n1 : Int) := by omega
      have d0 : ¬ (1048576 : Int) < (n0 : Int) := by omega
      clear hx0 h0 hb0 hx1 h1 hb1 hx2 h2 hb2 hK
      go_enter Tryd.func3, Tryd.ntmps3
      go_wp2
      go_ret
      exact ⟨rfl, Below.refl _ _⟩
  · have d0 : (1048576 : Int) < (n0 : Int) := by omega
    clear hx0 h0 hb0 hx1 h1 hb1 hx2 h2 hb2 hK
    go_enter Tryd.func3, Tryd.ntmps3
    go_wp2
    go_ret
    exact ⟨rfl, Below.refl _ _⟩

end Go.Proofs.YtaijemajolgmfabDoor
