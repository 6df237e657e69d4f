/-
  FnSmall returns true for any code, and writes nothing that was there; condition: bytes all.
-/
import Derived.Test.YtoolfgbghhbjmacFieldW
import Derived.Test.YtoolfgbghhbjmacSame
import Derived.Test.YtoolfgbghhbjmacBig
namespace Go.Proofs.Ytoolfgbghhbjmac
open Go.RowKit

set_option maxRecDepth 100000 in
set_option maxHeartbeats 8000000 in
theorem fnSmall_small (p : Option Addr) (n c : Nat) (xs : List Int) (w : World) (hn : n ≤ 1048576) (h : BytesIn w p n xs) (hb : ∀ x ∈ xs, 0 ≤ x ∧ x < 256) :
    Calls Try.prog 5 #[.slice p n c] w fun e w' => e = .returned (.bool true) ∧ Below w.heap.size w w' := by
  go_enter Try.func5, Try.ntmps5
  go_wp2_with (fail)
  refine (big_small p n c _ hn).mono ?_
  rintro e w0 ⟨rfl, kb⟩
  have h0 := in_below h kb
  have C1 := at_any p n c xs 1 w0 hn (by omega) h0 hb
  have C2 := at_any p n c xs 2 w0 hn (by omega) h0 hb
  have C3 := at_any p n c xs 3 w0 hn (by omega) h0 hb
  have C4 := at_any p n c xs 4 w0 hn (by omega) h0 hb
  clear h h0 hb
  go_wp2_with (fail)
  refine C1.mono ?_
  rintro e w0 ⟨a1, rfl, l1, rfl⟩
  go_wp2_with (fail)
  refine C2.mono ?_
  rintro e w0 ⟨a2, rfl, l2, rfl⟩
  have lx0 : 0 ≤ a1 * a2 := Int.mul_nonneg l1.1 l2.1
  have lx1 : a1 * a2 ≤ 255 * 255 := Int.mul_le_mul (by omega) (by omega) l2.1 (by omega)
  obtain ⟨x, hx'⟩ : ∃ x, x = a1 * a2 := ⟨_, rfl⟩
  have ex : a1 * a2 = x := hx'.symm
  rw [ex] at lx0 lx1
  clear C1 C2 hx'
  go_wp2_with (fail)
  refine C3.mono ?_
  rintro e w0 ⟨a3, rfl, l3, rfl⟩
  go_wp2_with (fail)
  refine C4.mono ?_
  rintro e w0 ⟨a4, rfl, l4, rfl⟩
  have ly0 : 0 ≤ a3 * a4 := Int.mul_nonneg l3.1 l4.1
  have ly1 : a3 * a4 ≤ 255 * 255 := Int.mul_le_mul (by omega) (by omega) l4.1 (by omega)
  obtain ⟨y, hy'⟩ : ∃ y, y = a3 * a4 := ⟨_, rfl⟩
  have ey : a3 * a4 = y := hy'.symm
  rw [ey] at ly0 ly1
  clear C3 C4 hy'
  have lm0 : 0 ≤ x * y := Int.mul_nonneg lx0 ly0
  have lm1 : x * y ≤ 255 * 255 * (255 * 255) := Int.mul_le_mul lx1 ly1 ly0 (by omega)
  obtain ⟨xy, hxy'⟩ : ∃ xy, xy = x * y := ⟨_, rfl⟩
  have exy : x * y = xy := hxy'.symm
  rw [exy] at lm0 lm1
  obtain ⟨xs', hxs'⟩ : ∃ xs', xs' = x + y := ⟨_, rfl⟩
  have exs : x + y = xs' := hxs'.symm
  obtain ⟨xd, hxd'⟩ : ∃ xd, xd = x - y := ⟨_, rfl⟩
  have exd : x - y = xd := hxd'.symm
  have hP : (4300000000 : Int) < fldP := by decide
  have nx : numF (numB x) = x := numF_numB lx0 (by omega)
  have ny : numF (numB y) = y := numF_numB ly0 (by omega)
  have mm : (x * y) % fldP = xy := by rw [exy]; exact Int.emod_eq_of_lt lm0 (by omega)
  have ma : (x + y) % fldP = xs' := by rw [exs]; exact Int.emod_eq_of_lt (by omega) (by omega)
  have ms : Hid (¬ x < y → (x - y) % fldP = xd) := fun hh => by rw [exd]; exact Int.emod_eq_of_lt (by omega) (by omega)
  have bx := numB_byte x
  have by1 := numB_byte y
  replace nx : Hid (numF (numB x) = x) := nx
  replace ny : Hid (numF (numB y) = y) := ny
  replace mm : Hid ((x * y) % fldP = xy) := mm
  replace ma : Hid ((x + y) % fldP = xs') := ma
  replace bx : Hid (∀ z ∈ numB x, 0 ≤ z ∧ z < 256) := bx
  replace by1 : Hid (∀ z ∈ numB y, 0 ≤ z ∧ z < 256) := by1
  clear l1 l2 l3 l4 hxy' hxs' hP
  by_cases hxy : x < y
  · clear ms hxd'
    go_wp2_with (fail)
    refine (wNum x _ (by omega) (by omega)).mono ?_
    rintro e w1 ⟨pr1, cr1, rfl, r1, b1⟩
    have k1 : Below w0.heap.size w0 w1 := below_on (Below.refl _ _) b1
    have z1 := b1.size
    go_wp2_with (fail)
    refine (wNum y _ (by omega) (by omega)).mono ?_
    rintro e w2 ⟨pr2, cr2, rfl, r2, b2⟩
    have k2 : Below w0.heap.size w0 w2 := below_on k1 b2
    have z2 := b2.size
    replace r1 := r1.on b2
    go_wp2_with (fail)
    refine (wNumS x _ (by omega) (by omega)).mono ?_
    rintro e w3 ⟨pr3, cr3, rfl, r3, b3⟩
    have k3 : Below w0.heap.size w0 w3 := below_on k2 b3
    have z3 := b3.size
    replace r1 := r1.on b3
    replace r2 := r2.on b3
    go_wp2_with (fail)
    refine (implSame_any pr1 pr3 32 32 cr1 cr3 (numB x) (numB x) _ r1.len r3.len r1.bytes r3.bytes).mono ?_
    rintro e w4 ⟨rfl, b4⟩
    have k4 : Below w0.heap.size w0 w4 := below_on k3 b4
    have z4 := b4.size
    replace r1 := r1.on b4
    replace r2 := r2.on b4
    replace r3 := r3.on b4
    go_wp2_with (fail)
    refine (wFieldMul pr1 pr2 cr1 cr2 x y xy (numB x) (numB y) _ nx.out ny.out mm.out r1.bytes r2.bytes bx.out by1.out r1.cap r2.cap).mono ?_
    rintro e w5 ⟨pr4, cr4, rfl, r4, b5⟩
    have k5 : Below w0.heap.size w0 w5 := below_on k4 b5
    have z5 := b5.size
    replace r1 := r1.on b5
    replace r2 := r2.on b5
    replace r3 := r3.on b5
    go_wp2_with (fail)
    refine (wNum xy _ (by omega) (by omega)).mono ?_
    rintro e w6 ⟨pr5, cr5, rfl, r5, b6⟩
    have k6 : Below w0.heap.size w0 w6 := below_on k5 b6
    have z6 := b6.size
    replace r1 := r1.on b6
    replace r2 := r2.on b6
    replace r3 := r3.on b6
    replace r4 := r4.on b6
    go_wp2_with (fail)
    refine (implSame_any pr4 pr5 32 32 cr4 cr5 (numB xy) (numB xy) _ r4.len r5.len r4.bytes r5.bytes).mono ?_
    rintro e w7 ⟨rfl, b7⟩
    have k7 : Below w0.heap.size w0 w7 := below_on k6 b7
    have z7 := b7.size
    replace r1 := r1.on b7
    replace r2 := r2.on b7
    replace r3 := r3.on b7
    replace r4 := r4.on b7
    replace r5 := r5.on b7
    clear r4 r5
    go_wp2_with (fail)
    refine (wFieldAdd pr1 pr2 cr1 cr2 x y xs' (numB x) (numB y) _ nx.out ny.out ma.out r1.bytes r2.bytes bx.out by1.out r1.cap r2.cap).mono ?_
    rintro e w8 ⟨pr6, cr6, rfl, r6, b8⟩
    have k8 : Below w0.heap.size w0 w8 := below_on k7 b8
    have z8 := b8.size
    replace r1 := r1.on b8
    replace r2 := r2.on b8
    replace r3 := r3.on b8
    go_wp2_with (fail)
    refine (wNum xs' _ (by omega) (by omega)).mono ?_
    rintro e w9 ⟨pr7, cr7, rfl, r7, b9⟩
    have k9 : Below w0.heap.size w0 w9 := below_on k8 b9
    have z9 := b9.size
    replace r1 := r1.on b9
    replace r2 := r2.on b9
    replace r3 := r3.on b9
    replace r6 := r6.on b9
    go_wp2_with (fail)
    refine (implSame_any pr6 pr7 32 32 cr6 cr7 (numB xs') (numB xs') _ r6.len r7.len r6.bytes r7.bytes).mono ?_
    rintro e w10 ⟨rfl, b10⟩
    have k10 : Below w0.heap.size w0 w10 := below_on k9 b10
    have z10 := b10.size
    replace r1 := r1.on b10
    replace r2 := r2.on b10
    replace r3 := r3.on b10
    replace r6 := r6.on b10
    replace r7 := r7.on b10
    clear r6 r7
    go_wp2_with (fail)
    go_ret
    exact ⟨rfl, below_on kb k10⟩
  · replace ms := ms.out hxy
    replace ms : Hid ((x - y) % fldP = xd) := ms
    have ld0 : 0 ≤ xd := by omega
    clear hxd'
    go_wp2_with (fail)
    refine (wNum x _ (by omega) (by omega)).mono ?_
    rintro e w1 ⟨pr1, cr1, rfl, r1, b1⟩
    have k1 : Below w0.heap.size w0 w1 := below_on (Below.refl _ _) b1
    have z1 := b1.size
    go_wp2_with (fail)
    refine (wNum y _ (by omega) (by omega)).mono ?_
    rintro e w2 ⟨pr2, cr2, rfl, r2, b2⟩
    have k2 : Below w0.heap.size w0 w2 := below_on k1 b2
    have z2 := b2.size
    replace r1 := r1.on b2
    go_wp2_with (fail)
    refine (wNumS x _ (by omega) (by omega)).mono ?_
    rintro e w3 ⟨pr3, cr3, rfl, r3, b3⟩
    have k3 : Below w0.heap.size w0 w3 := below_on k2 b3
    have z3 := b3.size
    replace r1 := r1.on b3
    replace r2 := r2.on b3
    go_wp2_with (fail)
    refine (implSame_any pr1 pr3 32 32 cr1 cr3 (numB x) (numB x) _ r1.len r3.len r1.bytes r3.bytes).mono ?_
    rintro e w4 ⟨rfl, b4⟩
    have k4 : Below w0.heap.size w0 w4 := below_on k3 b4
    have z4 := b4.size
    replace r1 := r1.on b4
    replace r2 := r2.on b4
    replace r3 := r3.on b4
    go_wp2_with (fail)
    refine (wFieldMul pr1 pr2 cr1 cr2 x y xy (numB x) (numB y) _ nx.out ny.out mm.out r1.bytes r2.bytes bx.out by1.out r1.cap r2.cap).mono ?_
    rintro e w5 ⟨pr4, cr4, rfl, r4, b5⟩
    have k5 : Below w0.heap.size w0 w5 := below_on k4 b5
    have z5 := b5.size
    replace r1 := r1.on b5
    replace r2 := r2.on b5
    replace r3 := r3.on b5
    go_wp2_with (fail)
    refine (wNum xy _ (by omega) (by omega)).mono ?_
    rintro e w6 ⟨pr5, cr5, rfl, r5, b6⟩
    have k6 : Below w0.heap.size w0 w6 := below_on k5 b6
    have z6 := b6.size
    replace r1 := r1.on b6
    replace r2 := r2.on b6
    replace r3 := r3.on b6
    replace r4 := r4.on b6
    go_wp2_with (fail)
    refine (implSame_any pr4 pr5 32 32 cr4 cr5 (numB xy) (numB xy) _ r4.len r5.len r4.bytes r5.bytes).mono ?_
    rintro e w7 ⟨rfl, b7⟩
    have k7 : Below w0.heap.size w0 w7 := below_on k6 b7
    have z7 := b7.size
    replace r1 := r1.on b7
    replace r2 := r2.on b7
    replace r3 := r3.on b7
    replace r4 := r4.on b7
    replace r5 := r5.on b7
    clear r4 r5
    go_wp2_with (fail)
    refine (wFieldAdd pr1 pr2 cr1 cr2 x y xs' (numB x) (numB y) _ nx.out ny.out ma.out r1.bytes r2.bytes bx.out by1.out r1.cap r2.cap).mono ?_
    rintro e w8 ⟨pr6, cr6, rfl, r6, b8⟩
    have k8 : Below w0.heap.size w0 w8 := below_on k7 b8
    have z8 := b8.size
    replace r1 := r1.on b8
    replace r2 := r2.on b8
    replace r3 := r3.on b8
    go_wp2_with (fail)
    refine (wNum xs' _ (by omega) (by omega)).mono ?_
    rintro e w9 ⟨pr7, cr7, rfl, r7, b9⟩
    have k9 : Below w0.heap.size w0 w9 := below_on k8 b9
    have z9 := b9.size
    replace r1 := r1.on b9
    replace r2 := r2.on b9
    replace r3 := r3.on b9
    replace r6 := r6.on b9
    go_wp2_with (fail)
    refine (implSame_any pr6 pr7 32 32 cr6 cr7 (numB xs') (numB xs') _ r6.len r7.len r6.bytes r7.bytes).mono ?_
    rintro e w10 ⟨rfl, b10⟩
    have k10 : Below w0.heap.size w0 w10 := below_on k9 b10
    have z10 := b10.size
    replace r1 := r1.on b10
    replace r2 := r2.on b10
    replace r3 := r3.on b10
    replace r6 := r6.on b10
    replace r7 := r7.on b10
    clear r6 r7
    go_wp2_with (fail)
    refine (wFieldSub pr1 pr2 cr1 cr2 x y xd (numB x) (numB y) _ nx.out ny.out ms.out r1.bytes r2.bytes bx.out by1.out r1.cap r2.cap).mono ?_
    rintro e w11 ⟨pr8, cr8, rfl, r8, b11⟩
    have k11 : Below w0.heap.size w0 w11 := below_on k10 b11
    have z11 := b11.size
    replace r1 := r1.on b11
    replace r2 := r2.on b11
    replace r3 := r3.on b11
    go_wp2_with (fail)
    refine (wNum xd _ (by omega) (by omega)).mono ?_
    rintro e w12 ⟨pr9, cr9, rfl, r9, b12⟩
    have k12 : Below w0.heap.size w0 w12 := below_on k11 b12
    have z12 := b12.size
    replace r1 := r1.on b12
    replace r2 := r2.on b12
    replace r3 := r3.on b12
    replace r8 := r8.on b12
    go_wp2_with (fail)
    refine (implSame_any pr8 pr9 32 32 cr8 cr9 (numB xd) (numB xd) _ r8.len r9.len r8.bytes r9.bytes).mono ?_
    rintro e w13 ⟨rfl, b13⟩
    have k13 : Below w0.heap.size w0 w13 := below_on k12 b13
    have z13 := b13.size
    replace r1 := r1.on b13
    replace r2 := r2.on b13
    replace r3 := r3.on b13
    replace r8 := r8.on b13
    replace r9 := r9.on b13
    clear r8 r9
    go_wp2_with (fail)
    go_ret
    exact ⟨rfl, below_on kb k13⟩

theorem fnSmall_law (p : Option Addr) (n c : Nat) (xs : List Int) (w : World) (_hx : xs.length = n) (h : BytesIn w p n xs) (hb : ∀ x ∈ xs, 0 ≤ x ∧ x < 256) :
    Calls Try.prog 5 #[.slice p n c] w fun e w' => e = .returned (.bool true) ∧ Below w.heap.size w w' := by
  by_cases hn : n ≤ 1048576
  · exact fnSmall_small p n c xs w hn h hb
  · clear h hb
    have C := fun X => big_great p n c X hn
    go_enter Try.func5, Try.ntmps5
    go_wp2_with (fail)
    refine (C _).mono ?_
    rintro e w1 ⟨rfl, b1⟩
    go_wp2
    go_ret
    exact ⟨rfl, b1⟩

end Go.Proofs.Ytoolfgbghhbjmac
