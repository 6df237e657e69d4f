/-
  FnExactPublicOf returns true for any lists and numbers, and writes nothing that was there; conditions: bytes all, and the table is as its text says.
-/
import Derived.Test.YtdjdanpicbaieaaGreatDoorPart02
import Derived.Test.YtdjdanpicbaieaaGreatDoorPart13
import Derived.Test.YtdjdanpicbaieaaGreatDoorPart29
namespace Go.Proofs.YtdjdanpicbaieaaGreatDoor
open Go.RowKit
set_option maxRecDepth 100000

set_option maxHeartbeats 8000000 in
theorem publicOf_small (p0 : Option Addr) (n0 q0 : Nat) (ep : Int) (xs0 : List Int) (w : World) (hn0 : n0 ≤ 1048576) (hx0 : xs0.length = n0) (h0 : BytesIn w p0 n0 xs0) (hb0 : ∀ x ∈ xs0, 0 ≤ x ∧ x < 256) (hK : KeysIs w) :
    Calls Tryz.prog 4 #[.slice p0 n0 q0, .int .i64 ep] w fun e w' => e = .returned (.bool true) ∧ Below w.heap.size w w' := by
  have c0 : ¬ (1048576 : Int) < (n0 : Int) := by omega
  have hpb := pubN_le n0 ep
  go_enter Tryz.func4, Tryz.ntmps4
  go_wp2_with (fail)
  refine (toByteS_own p0 n0 q0 xs0 _ hn0 hx0 h0).mono ?_
  rintro e w1 ⟨pr1, cr1, rfl, r1, b1⟩
  have k1 : Below w.heap.size w w1 := below_on (Below.refl _ _) b1
  have z1 := b1.size
  go_wp2_with (fail)
  refine (specPubOf_any pr1 n0 cr1 xs0 ep _ r1.len r1.bytes hb0).mono ?_
  rintro e w2 ⟨pr2, cr2, rfl, r2, b2⟩
  have k2 : Below w.heap.size w w2 := below_on k1 b2
  have z2 := b2.size
  replace r1 := r1.on b2
  go_wp2_with (fail)
  refine (toByteS_own p0 n0 q0 xs0 _ hn0 hx0 (in_below h0 k2)).mono ?_
  rintro e w3 ⟨pr3, cr3, rfl, r3, b3⟩
  have k3 : Below w.heap.size w w3 := below_on k2 b3
  have z3 := b3.size
  replace r1 := r1.on b3
  replace r2 := r2.on b3
  go_wp2_with (fail)
  refine (implPubOf_any pr3 n0 cr3 xs0 ep _ r3.len r3.bytes hb0 (keys_below hK k3)).mono ?_
  rintro e w4 ⟨pr4, cr4, rfl, r4, b4⟩
  have k4 : Below w.heap.size w w4 := below_on k3 b4
  have z4 := b4.size
  replace r1 := r1.on b4
  replace r2 := r2.on b4
  replace r3 := r3.on b4
  go_wp2_with (fail)
  refine (eqByteS_any pr4 pr2 (pubN n0 ep) (pubN n0 ep) cr4 cr2 (pubL xs0 ep) (pubL xs0 ep) _ (by omega) r4.len r2.len r4.bytes r2.bytes).mono ?_
  rintro e w5 ⟨rfl, b5⟩
  have k5 : Below w.heap.size w w5 := below_on k4 b5
  have z5 := b5.size
  replace r1 := r1.on b5
  replace r2 := r2.on b5
  replace r3 := r3.on b5
  replace r4 := r4.on b5
  go_wp2_with (fail)
  refine (toByteS_own p0 n0 q0 xs0 _ hn0 hx0 (in_below h0 k5)).mono ?_
  rintro e w6 ⟨pr5, cr5, rfl, r5, b6⟩
  have k6 : Below w.heap.size w w6 := below_on k5 b6
  have z6 := b6.size
  replace r1 := r1.on b6
  replace r2 := r2.on b6
  replace r3 := r3.on b6
  replace r4 := r4.on b6
  go_wp2_with (fail)
  refine (eqByteS_any pr3 pr5 n0 n0 cr3 cr5 xs0 xs0 _ (by omega) r3.len r5.len r3.bytes r5.bytes).mono ?_
  rintro e w7 ⟨rfl, b7⟩
  have k7 : Below w.heap.size w w7 := below_on k6 b7
  have z7 := b7.size
  replace r1 := r1.on b7
  replace r2 := r2.on b7
  replace r3 := r3.on b7
  replace r4 := r4.on b7
  replace r5 := r5.on b7
  go_wp2_with (fail)
  refine (markByteS_own _ _ pr3 n0 cr3 xs0 1 _ (by omega) (by omega) (by omega) r3).mono ?_
  rintro e w8 ⟨rfl, m8, g8⟩
  have k8 : Below w.heap.size w w8 := below_mark k7 g8 r3 (by omega)
  have z8 := g8.size
  replace r1 := r1.far g8 r3 (by omega)
  replace r2 := r2.far g8 r3 (by omega)
  replace r4 := r4.far g8 r3 (by omega)
  replace r5 := r5.far g8 r3 (by omega)
  clear r3 g8
  have r3 := m8
  clear m8
  go_wp2_with (fail)
  refine (eqByteS_any pr4 pr2 (pubN n0 ep) (pubN n0 ep) cr4 cr2 (pubL xs0 ep) (pubL xs0 ep) _ (by omega) r4.len r2.len r4.bytes r2.bytes).mono ?_
  rintro e w9 ⟨rfl, b9⟩
  have k9 : Below w.heap.size w w9 := below_on k8 b9
  have z9 := b9.size
  replace r1 := r1.on b9
  replace r2 := r2.on b9
  replace r3 := r3.on b9
  replace r4 := r4.on b9
  replace r5 := r5.on b9
  go_wp2_with (fail)
  refine (markByteS_own _ _ pr4 (pubN n0 ep) cr4 (pubL xs0 ep) 1 _ (by omega) (by omega) (by omega) r4).mono ?_
  rintro e w10 ⟨rfl, m10, g10⟩
  have k10 : Below w.heap.size w w10 := below_mark k9 g10 r4 (by omega)
  have z10 := g10.size
  replace r1 := r1.far g10 r4 (by omega)
  replace r2 := r2.far g10 r4 (by omega)
  replace r3 := r3.far g10 r4 (by omega)
  replace r5 := r5.far g10 r4 (by omega)
  clear r4 g10
  have r4 := m10
  clear m10
  go_wp2_with (fail)
  refine (heldByteS_any pr4 (pubN n0 ep) cr4 1 _ (by omega) (by omega) (by omega) r4.bytes).mono ?_
  rintro e w11 ⟨rfl, b11⟩
  have k11 : Below w.heap.size w w11 := below_on k10 b11
  have z11 := b11.size
  replace r1 := r1.on b11
  replace r2 := r2.on b11
  replace r3 := r3.on b11
  replace r4 := r4.on b11
  replace r5 := r5.on b11
  go_wp2_with (fail)
  refine (toByteS_own p0 n0 q0 xs0 _ hn0 hx0 (in_below h0 k11)).mono ?_
  rintro e w12 ⟨pr6, cr6, rfl, r6, b12⟩
  have k12 : Below w.heap.size w w12 := below_on k11 b12
  have z12 := b12.size
  replace r1 := r1.on b12
  replace r2 := r2.on b12
  replace r3 := r3.on b12
  replace r4 := r4.on b12
  replace r5 := r5.on b12
  go_wp2_with (fail)
  refine (implPubOf_any pr6 n0 cr6 xs0 ep _ r6.len r6.bytes hb0 (keys_below hK k12)).mono ?_
  rintro e w13 ⟨pr7, cr7, rfl, r7, b13⟩
  have k13 : Below w.heap.size w w13 := below_on k12 b13
  have z13 := b13.size
  replace r1 := r1.on b13
  replace r2 := r2.on b13
  replace r3 := r3.on b13
  replace r4 := r4.on b13
  replace r5 := r5.on b13
  replace r6 := r6.on b13
  go_wp2_with (fail)
  refine (eqByteS_any pr7 pr2 (pubN n0 ep) (pubN n0 ep) cr7 cr2 (pubL xs0 ep) (pubL xs0 ep) _ (by omega) r7.len r2.len r7.bytes r2.bytes).mono ?_
  rintro e w14 ⟨rfl, b14⟩
  have k14 : Below w.heap.size w w14 := below_on k13 b14
  have z14 := b14.size
  replace r1 := r1.on b14
  replace r2 := r2.on b14
  replace r3 := r3.on b14
  replace r4 := r4.on b14
  replace r5 := r5.on b14
  replace r6 := r6.on b14
  replace r7 := r7.on b14
  go_wp2_with (fail)
  refine (heldByteS_any pr4 (pubN n0 ep) cr4 1 _ (by omega) (by omega) (by omega) r4.bytes).mono ?_
  rintro e w15 ⟨rfl, b15⟩
  have k15 : Below w.heap.size w w15 := below_on k14 b15
  have z15 := b15.size
  replace r1 := r1.on b15
  replace r2 := r2.on b15
  replace r3 := r3.on b15
  replace r4 := r4.on b15
  replace r5 := r5.on b15
  replace r6 := r6.on b15
  replace r7 := r7.on b15
  go_wp2_with (fail)
  go_ret
  exact ⟨rfl, k15⟩

theorem publicOf_law (p0 : Option Addr) (n0 q0 : Nat) (ep : Int) (xs0 : List Int) (w : World) (hx0 : xs0.length = n0) (h0 : BytesIn w p0 n0 xs0) (hb0 : ∀ x ∈ xs0, 0 ≤ x ∧ x < 256) (hK : KeysIs w) :
    Calls Tryz.prog 4 #[.slice p0 n0 q0, .int .i64 ep] w fun e w' => e = .returned (.bool true) ∧ Below w.heap.size w w' := by
  by_cases hn0 : n0 ≤ 1048576
  · exact publicOf_small p0 n0 q0 ep xs0 w hn0 hx0 h0 hb0 hK
  · have d0 : (1048576 : Int) < (n0 : Int) := by omega
    clear hx0 h0 hb0 hK
    go_enter Tryz.func4, Tryz.ntmps4
    go_wp2
    go_ret
    exact ⟨rfl, Below.refl _ _⟩

end Go.Proofs.YtdjdanpicbaieaaGreatDoor
