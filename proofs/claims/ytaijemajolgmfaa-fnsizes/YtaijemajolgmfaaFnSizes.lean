/-
  FnSizes returns true for any code, and writes nothing that was there; condition: bytes all.
-/
import Derived.Test.YtaijemajolgmfaaNoteFacts
import Derived.Test.YtaijemajolgmfaaImplUnnote
import Derived.Test.YtaijemajolgmfaaDraw10
import Derived.Test.YtaijemajolgmfaaSame
import Derived.Test.YtaijemajolgmfaaBig
namespace Go.Proofs.Ytaijemajolgmfaa
open Go.RowKit

set_option maxRecDepth 100000 in
set_option maxHeartbeats 16000000 in
theorem fnSizes_small (p : Option Addr) (n c : Nat) (xs : List Int) (w : World) (hn : n ≤ 1048576) (hx : xs.length = n) (h : BytesIn w p n xs) (hb : ∀ x ∈ xs, 0 ≤ x ∧ x < 256) :
    Calls Try.prog 3 #[.slice p n c] w fun e w' => e = .returned (.bool true) ∧ Below w.heap.size w w' := by
  go_enter Try.func3, Try.ntmps3
  go_wp2_with (fail)
  refine (big_small p n c _ hn).mono ?_
  rintro e w1 ⟨rfl, b1⟩
  have k1 : Below w.heap.size w w1 := below_on (Below.refl _ _) b1
  have z1 := b1.size
  go_wp2_with (fail)
  refine (dPadded p n c xs _ hn hx (in_below h k1) hb).mono ?_
  rintro e w2 ⟨ga, ka, ca, ya, rfl, ⟨hka, hya⟩, ra, b2⟩
  have k2 : Below w.heap.size w w2 := below_on k1 b2
  have z2 := b2.size
  go_wp2_with (fail)
  refine (implPadded_any ga ka ca ya _ ra.len ra.bytes).mono ?_
  rintro e w3 ⟨pr1, cr1, rfl, r1, b3⟩
  have k3 : Below w.heap.size w w3 := below_on k2 b3
  have z3 := b3.size
  replace ra := ra.on b3
  go_wp2_with (fail)
  refine (dUnpadded p n c xs _ hn hx (in_below h k3) hb).mono ?_
  rintro e w4 ⟨gx, kx, cx, yx, rfl, ⟨hkx, hyx⟩, rx, b4⟩
  have k4 : Below w.heap.size w w4 := below_on k3 b4
  have z4 := b4.size
  replace ra := ra.on b4
  replace r1 := r1.on b4
  clear hx hb
  by_cases ex : unOk yx
  · by_cases ea : ka ≤ 200
    · have CY := fun X (hX : BytesIn X gx kx yx) => implUnpadded_any gx kx cx yx X (by omega) rx.len hX hyx rx.cap
      have CZ := fun X (hX : BytesIn X gx kx yx) => specUnpadded_any gx kx cx yx X (by omega) rx.len hX hyx rx.cap
      rw [decide_eq_true ex] at CY CZ
      have lN := unM_le yx
      go_wp2_with (fail)
      refine (CY _ rx.bytes).mono ?_
      rintro e w5 ⟨pr2, cr2, rfl, r2, b5⟩
      have k5 : Below w.heap.size w w5 := below_on k4 b5
      have z5 := b5.size
      replace ra := ra.on b5
      replace r1 := r1.on b5
      replace rx := rx.on b5
      go_wp2_with (fail)
      refine (CZ _ rx.bytes).mono ?_
      rintro e w6 ⟨pr3, cr3, rfl, r3, b6⟩
      have k6 : Below w.heap.size w w6 := below_on k5 b6
      have z6 := b6.size
      replace ra := ra.on b6
      replace r1 := r1.on b6
      replace rx := rx.on b6
      replace r2 := r2.on b6
      clear CY CZ
      go_wp2_with (fail)
      refine (specPadded_any ga ka ca ya _ (by omega) ra.len ra.bytes).mono ?_
      rintro e w7 ⟨pr4, cr4, rfl, r4, b7⟩
      have k7 : Below w.heap.size w w7 := below_on k6 b7
      have z7 := b7.size
      replace ra := ra.on b7
      replace r1 := r1.on b7
      replace rx := rx.on b7
      replace r2 := r2.on b7
      replace r3 := r3.on b7
      go_wp2_with (fail)
      refine (implSame_any pr1 pr4 (noteN ka) (noteN ka) cr1 cr4 (noteL ya) (noteL ya) _ r1.len r4.len r1.bytes r4.bytes).mono ?_
      rintro e w8 ⟨rfl, b8⟩
      have k8 : Below w.heap.size w w8 := below_on k7 b8
      have z8 := b8.size
      replace ra := ra.on b8
      replace r1 := r1.on b8
      replace rx := rx.on b8
      replace r2 := r2.on b8
      replace r3 := r3.on b8
      replace r4 := r4.on b8
      clear r4
      go_wp2_with (fail)
      refine (implSame_any pr2 pr3 (unM yx) (unM yx) cr2 cr3 (unL yx) (unL yx) _ r2.len r3.len r2.bytes r3.bytes).mono ?_
      rintro e w9 ⟨rfl, b9⟩
      have k9 : Below w.heap.size w w9 := below_on k8 b9
      have z9 := b9.size
      replace ra := ra.on b9
      replace r1 := r1.on b9
      replace rx := rx.on b9
      replace r2 := r2.on b9
      replace r3 := r3.on b9
      clear r3
      have CX := fun X (hX : BytesIn X pr2 (unM yx) (unL yx)) => implPadded_any pr2 (unM yx) cr2 (unL yx) X (unL_length yx) hX
      rw [(note_un ex).1, (note_un ex).2, rx.len] at CX
      go_wp2_with (fail)
      refine (CX _ r2.bytes).mono ?_
      rintro e w10 ⟨pr5, cr5, rfl, r5, b10⟩
      have k10 : Below w.heap.size w w10 := below_on k9 b10
      have z10 := b10.size
      replace ra := ra.on b10
      replace r1 := r1.on b10
      replace rx := rx.on b10
      replace r2 := r2.on b10
      clear CX
      go_wp2_with (fail)
      refine (implSame_any pr5 gx kx kx cr5 cx yx yx _ r5.len rx.len r5.bytes rx.bytes).mono ?_
      rintro e w11 ⟨rfl, b11⟩
      have k11 : Below w.heap.size w w11 := below_on k10 b11
      have z11 := b11.size
      replace ra := ra.on b11
      replace r1 := r1.on b11
      replace rx := rx.on b11
      replace r2 := r2.on b11
      replace r5 := r5.on b11
      clear r5
      clear r2 rx
      have ga0 : ¬ (200 : Int) < (ka : Int) := by omega
      have la := ra.len
      have CU := fun X (hX : BytesIn X pr1 (noteN ka) (noteL ya)) => implUnpadded_any pr1 (noteN ka) cr1 (noteL ya) X (by have := noteN_le ka; omega) r1.len hX (noteL_byte hya) r1.cap
      obtain ⟨u1, u2, u3⟩ := un_note (xs := ya) (by omega)
      rw [decide_eq_true u1, u2, u3, la] at CU
      clear u1 u2 u3 la
      obtain ⟨s1, s2, s3⟩ := note_size ea
      go_wp2_with (fail)
      refine (CU _ r1.bytes).mono ?_
      rintro e w12 ⟨pr6, cr6, rfl, r6, b12⟩
      have k12 : Below w.heap.size w w12 := below_on k11 b12
      have z12 := b12.size
      replace ra := ra.on b12
      replace r1 := r1.on b12
      clear CU
      go_wp2_with (fail)
      refine (implSame_any pr6 ga ka ka cr6 ca ya ya _ r6.len ra.len r6.bytes ra.bytes).mono ?_
      rintro e w13 ⟨rfl, b13⟩
      have k13 : Below w.heap.size w w13 := below_on k12 b13
      have z13 := b13.size
      replace ra := ra.on b13
      replace r1 := r1.on b13
      replace r6 := r6.on b13
      clear r6 r1 ra
      obtain ⟨s4, s5⟩ : decide ((ka : Int) + 2 ≤ ((noteN ka : Nat) : Int)) = true ∧ decide (((noteN ka : Nat) : Int) ≤ (ka : Int) + 2 + 96) = true := ⟨decide_eq_true s2, decide_eq_true s3⟩
      have s6 := noteN_le ka
      generalize noteN ka = NN at s1 s2 s3 s4 s5 s6 ⊢
      go_wp2_with (fail)
      go_ret
      exact ⟨rfl, k13⟩
    · have CY := fun X (hX : BytesIn X gx kx yx) => implUnpadded_any gx kx cx yx X (by omega) rx.len hX hyx rx.cap
      have CZ := fun X (hX : BytesIn X gx kx yx) => specUnpadded_any gx kx cx yx X (by omega) rx.len hX hyx rx.cap
      rw [decide_eq_true ex] at CY CZ
      have lN := unM_le yx
      go_wp2_with (fail)
      refine (CY _ rx.bytes).mono ?_
      rintro e w5 ⟨pr2, cr2, rfl, r2, b5⟩
      have k5 : Below w.heap.size w w5 := below_on k4 b5
      have z5 := b5.size
      replace ra := ra.on b5
      replace r1 := r1.on b5
      replace rx := rx.on b5
      go_wp2_with (fail)
      refine (CZ _ rx.bytes).mono ?_
      rintro e w6 ⟨pr3, cr3, rfl, r3, b6⟩
      have k6 : Below w.heap.size w w6 := below_on k5 b6
      have z6 := b6.size
      replace ra := ra.on b6
      replace r1 := r1.on b6
      replace rx := rx.on b6
      replace r2 := r2.on b6
      clear CY CZ
      go_wp2_with (fail)
      refine (specPadded_any ga ka ca ya _ (by omega) ra.len ra.bytes).mono ?_
      rintro e w7 ⟨pr4, cr4, rfl, r4, b7⟩
      have k7 : Below w.heap.size w w7 := below_on k6 b7
      have z7 := b7.size
      replace ra := ra.on b7
      replace r1 := r1.on b7
      replace rx := rx.on b7
      replace r2 := r2.on b7
      replace r3 := r3.on b7
      go_wp2_with (fail)
      refine (implSame_any pr1 pr4 (noteN ka) (noteN ka) cr1 cr4 (noteL ya) (noteL ya) _ r1.len r4.len r1.bytes r4.bytes).mono ?_
      rintro e w8 ⟨rfl, b8⟩
      have k8 : Below w.heap.size w w8 := below_on k7 b8
      have z8 := b8.size
      replace ra := ra.on b8
      replace r1 := r1.on b8
      replace rx := rx.on b8
      replace r2 := r2.on b8
      replace r3 := r3.on b8
      replace r4 := r4.on b8
      clear r4
      go_wp2_with (fail)
      refine (implSame_any pr2 pr3 (unM yx) (unM yx) cr2 cr3 (unL yx) (unL yx) _ r2.len r3.len r2.bytes r3.bytes).mono ?_
      rintro e w9 ⟨rfl, b9⟩
      have k9 : Below w.heap.size w w9 := below_on k8 b9
      have z9 := b9.size
      replace ra := ra.on b9
      replace r1 := r1.on b9
      replace rx := rx.on b9
      replace r2 := r2.on b9
      replace r3 := r3.on b9
      clear r3
      have CX := fun X (hX : BytesIn X pr2 (unM yx) (unL yx)) => implPadded_any pr2 (unM yx) cr2 (unL yx) X (unL_length yx) hX
      rw [(note_un ex).1, (note_un ex).2, rx.len] at CX
      go_wp2_with (fail)
      refine (CX _ r2.bytes).mono ?_
      rintro e w10 ⟨pr5, cr5, rfl, r5, b10⟩
      have k10 : Below w.heap.size w w10 := below_on k9 b10
      have z10 := b10.size
      replace ra := ra.on b10
      replace r1 := r1.on b10
      replace rx := rx.on b10
      replace r2 := r2.on b10
      clear CX
      go_wp2_with (fail)
      refine (implSame_any pr5 gx kx kx cr5 cx yx yx _ r5.len rx.len r5.bytes rx.bytes).mono ?_
      rintro e w11 ⟨rfl, b11⟩
      have k11 : Below w.heap.size w w11 := below_on k10 b11
      have z11 := b11.size
      replace ra := ra.on b11
      replace r1 := r1.on b11
      replace rx := rx.on b11
      replace r2 := r2.on b11
      replace r5 := r5.on b11
      clear r5
      clear r2 rx
      have ga0 : (200 : Int) < (ka : Int) := by omega
      have e0 : noteN ka = 0 := if_neg (by omega)
      rw [e0]
      clear e0
      go_wp2_with (fail)
      go_ret
      exact ⟨rfl, k11⟩
  · by_cases ea : ka ≤ 200
    · have CY := fun X (hX : BytesIn X gx kx yx) => implUnpadded_any gx kx cx yx X (by omega) rx.len hX hyx rx.cap
      have CZ := fun X (hX : BytesIn X gx kx yx) => specUnpadded_any gx kx cx yx X (by omega) rx.len hX hyx rx.cap
      rw [decide_eq_false ex] at CY CZ
      have lN := unM_le yx
      go_wp2_with (fail)
      refine (CY _ rx.bytes).mono ?_
      rintro e w5 ⟨pr2, cr2, rfl, r2, b5⟩
      have k5 : Below w.heap.size w w5 := below_on k4 b5
      have z5 := b5.size
      replace ra := ra.on b5
      replace r1 := r1.on b5
      replace rx := rx.on b5
      go_wp2_with (fail)
      refine (CZ _ rx.bytes).mono ?_
      rintro e w6 ⟨pr3, cr3, rfl, r3, b6⟩
      have k6 : Below w.heap.size w w6 := below_on k5 b6
      have z6 := b6.size
      replace ra := ra.on b6
      replace r1 := r1.on b6
      replace rx := rx.on b6
      replace r2 := r2.on b6
      clear CY CZ
      go_wp2_with (fail)
      refine (specPadded_any ga ka ca ya _ (by omega) ra.len ra.bytes).mono ?_
      rintro e w7 ⟨pr4, cr4, rfl, r4, b7⟩
      have k7 : Below w.heap.size w w7 := below_on k6 b7
      have z7 := b7.size
      replace ra := ra.on b7
      replace r1 := r1.on b7
      replace rx := rx.on b7
      replace r2 := r2.on b7
      replace r3 := r3.on b7
      go_wp2_with (fail)
      refine (implSame_any pr1 pr4 (noteN ka) (noteN ka) cr1 cr4 (noteL ya) (noteL ya) _ r1.len r4.len r1.bytes r4.bytes).mono ?_
      rintro e w8 ⟨rfl, b8⟩
      have k8 : Below w.heap.size w w8 := below_on k7 b8
      have z8 := b8.size
      replace ra := ra.on b8
      replace r1 := r1.on b8
      replace rx := rx.on b8
      replace r2 := r2.on b8
      replace r3 := r3.on b8
      replace r4 := r4.on b8
      clear r4
      go_wp2_with (fail)
      refine (implSame_any pr2 pr3 (unM yx) (unM yx) cr2 cr3 (unL yx) (unL yx) _ r2.len r3.len r2.bytes r3.bytes).mono ?_
      rintro e w9 ⟨rfl, b9⟩
      have k9 : Below w.heap.size w w9 := below_on k8 b9
      have z9 := b9.size
      replace ra := ra.on b9
      replace r1 := r1.on b9
      replace rx := rx.on b9
      replace r2 := r2.on b9
      replace r3 := r3.on b9
      clear r3
      clear r2 rx
      have ga0 : ¬ (200 : Int) < (ka : Int) := by omega
      have la := ra.len
      have CU := fun X (hX : BytesIn X pr1 (noteN ka) (noteL ya)) => implUnpadded_any pr1 (noteN ka) cr1 (noteL ya) X (by have := noteN_le ka; omega) r1.len hX (noteL_byte hya) r1.cap
      obtain ⟨u1, u2, u3⟩ := un_note (xs := ya) (by omega)
      rw [decide_eq_true u1, u2, u3, la] at CU
      clear u1 u2 u3 la
      obtain ⟨s1, s2, s3⟩ := note_size ea
      go_wp2_with (fail)
      refine (CU _ r1.bytes).mono ?_
      rintro e w10 ⟨pr5, cr5, rfl, r5, b10⟩
      have k10 : Below w.heap.size w w10 := below_on k9 b10
      have z10 := b10.size
      replace ra := ra.on b10
      replace r1 := r1.on b10
      clear CU
      go_wp2_with (fail)
      refine (implSame_any pr5 ga ka ka cr5 ca ya ya _ r5.len ra.len r5.bytes ra.bytes).mono ?_
      rintro e w11 ⟨rfl, b11⟩
      have k11 : Below w.heap.size w w11 := below_on k10 b11
      have z11 := b11.size
      replace ra := ra.on b11
      replace r1 := r1.on b11
      replace r5 := r5.on b11
      clear r5 r1 ra
      obtain ⟨s4, s5⟩ : decide ((ka : Int) + 2 ≤ ((noteN ka : Nat) : Int)) = true ∧ decide (((noteN ka : Nat) : Int) ≤ (ka : Int) + 2 + 96) = true := ⟨decide_eq_true s2, decide_eq_true s3⟩
      have s6 := noteN_le ka
      generalize noteN ka = NN at s1 s2 s3 s4 s5 s6 ⊢
      go_wp2_with (fail)
      go_ret
      exact ⟨rfl, k11⟩
    · have CY := fun X (hX : BytesIn X gx kx yx) => implUnpadded_any gx kx cx yx X (by omega) rx.len hX hyx rx.cap
      have CZ := fun X (hX : BytesIn X gx kx yx) => specUnpadded_any gx kx cx yx X (by omega) rx.len hX hyx rx.cap
      rw [decide_eq_false ex] at CY CZ
      have lN := unM_le yx
      go_wp2_with (fail)
      refine (CY _ rx.bytes).mono ?_
      rintro e w5 ⟨pr2, cr2, rfl, r2, b5⟩
      have k5 : Below w.heap.size w w5 := below_on k4 b5
      have z5 := b5.size
      replace ra := ra.on b5
      replace r1 := r1.on b5
      replace rx := rx.on b5
      go_wp2_with (fail)
      refine (CZ _ rx.bytes).mono ?_
      rintro e w6 ⟨pr3, cr3, rfl, r3, b6⟩
      have k6 : Below w.heap.size w w6 := below_on k5 b6
      have z6 := b6.size
      replace ra := ra.on b6
      replace r1 := r1.on b6
      replace rx := rx.on b6
      replace r2 := r2.on b6
      clear CY CZ
      go_wp2_with (fail)
      refine (specPadded_any ga ka ca ya _ (by omega) ra.len ra.bytes).mono ?_
      rintro e w7 ⟨pr4, cr4, rfl, r4, b7⟩
      have k7 : Below w.heap.size w w7 := below_on k6 b7
      have z7 := b7.size
      replace ra := ra.on b7
      replace r1 := r1.on b7
      replace rx := rx.on b7
      replace r2 := r2.on b7
      replace r3 := r3.on b7
      go_wp2_with (fail)
      refine (implSame_any pr1 pr4 (noteN ka) (noteN ka) cr1 cr4 (noteL ya) (noteL ya) _ r1.len r4.len r1.bytes r4.bytes).mono ?_
      rintro e w8 ⟨rfl, b8⟩
      have k8 : Below w.heap.size w w8 := below_on k7 b8
      have z8 := b8.size
      replace ra := ra.on b8
      replace r1 := r1.on b8
      replace rx := rx.on b8
      replace r2 := r2.on b8
      replace r3 := r3.on b8
      replace r4 := r4.on b8
      clear r4
      go_wp2_with (fail)
      refine (implSame_any pr2 pr3 (unM yx) (unM yx) cr2 cr3 (unL yx) (unL yx) _ r2.len r3.len r2.bytes r3.bytes).mono ?_
      rintro e w9 ⟨rfl, b9⟩
      have k9 : Below w.heap.size w w9 := below_on k8 b9
      have z9 := b9.size
      replace ra := ra.on b9
      replace r1 := r1.on b9
      replace rx := rx.on b9
      replace r2 := r2.on b9
      replace r3 := r3.on b9
      clear r3
      clear r2 rx
      have ga0 : (200 : Int) < (ka : Int) := by omega
      have e0 : noteN ka = 0 := if_neg (by omega)
      rw [e0]
      clear e0
      go_wp2_with (fail)
      go_ret
      exact ⟨rfl, k9⟩

theorem fnSizes_law (p : Option Addr) (n c : Nat) (xs : List Int) (w : World) (hx : xs.length = n) (h : BytesIn w p n xs) (hb : ∀ x ∈ xs, 0 ≤ x ∧ x < 256) :
    Calls Try.prog 3 #[.slice p n c] w fun e w' => e = .returned (.bool true) ∧ Below w.heap.size w w' := by
  by_cases hn : n ≤ 1048576
  · exact fnSizes_small p n c xs w hn hx h hb
  · clear hx h hb
    have C := fun X => big_great p n c X hn
    go_enter Try.func3, Try.ntmps3
    go_wp2_with (fail)
    refine (C _).mono ?_
    rintro e w1 ⟨rfl, b1⟩
    go_wp2
    go_ret
    exact ⟨rfl, b1⟩

end Go.Proofs.Ytaijemajolgmfaa
