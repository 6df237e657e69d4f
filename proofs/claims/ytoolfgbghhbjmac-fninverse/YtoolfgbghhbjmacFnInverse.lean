/-
  FnInverse returns true for any code, and writes nothing that was there; condition: bytes all.
-/
import Derived.Test.YtoolfgbghhbjmacFieldX
import Derived.Test.YtoolfgbghhbjmacDraw8
import Derived.Test.YtoolfgbghhbjmacSame
import Derived.Test.YtoolfgbghhbjmacBig
namespace Go.Proofs.Ytoolfgbghhbjmac
open Go.RowKit

set_option maxRecDepth 100000 in
set_option maxHeartbeats 16000000 in
theorem fnInverse_small (p : Option Addr) (n c : Nat) (xs : List Int) (w : World) (hn : n ≤ 1048576) (hx : xs.length = n) (h : BytesIn w p n xs) (hb : ∀ x ∈ xs, 0 ≤ x ∧ x < 256) :
    Calls Try.prog 4 #[.slice p n c] w fun e w' => e = .returned (.bool true) ∧ Below w.heap.size w w' := by
  go_enter Try.func4, Try.ntmps4
  go_wp2_with (fail)
  refine (big_small p n c _ hn).mono ?_
  rintro e w1 ⟨rfl, b1⟩
  have k1 : Below w.heap.size w w1 := below_on (Below.refl _ _) b1
  have z1 := b1.size
  obtain ⟨iv, hiv⟩ : ∃ iv : List Int → Int, iv = fun ks => numF ks ^ (fldP - 2).toNat := ⟨_, rfl⟩
  have II : Hid (∀ (p : Option Addr) (n c : Nat) (ks : List Int) (w : World), BytesIn w p n ks → (∀ x ∈ ks, 0 ≤ x ∧ x < 256) → n ≤ c → Calls Try.prog 19 #[.slice p n c] w fun e w' => ∃ p' c', e = .returned (.slice p' (oneN n) c') ∧ Own 5 w' w.heap.size w'.heap.size (.slice p' (oneN n) c') (oneN n) (oneL (iv ks) n) ∧ Below w.heap.size w w') := fun p n c ks w h1 h2 h3 => by rw [hiv]; exact implFieldInv_any p n c ks w h1 h2 h3
  have IS : Hid (∀ (p : Option Addr) (n c : Nat) (ks : List Int) (w : World), BytesIn w p n ks → (∀ x ∈ ks, 0 ≤ x ∧ x < 256) → Calls Try.prog 22 #[.slice p n c] w fun e w' => ∃ p' c', e = .returned (.slice p' (oneN n) c') ∧ Own 5 w' w.heap.size w'.heap.size (.slice p' (oneN n) c') (oneN n) (oneL (iv ks) n) ∧ Below w.heap.size w w') := fun p n c ks w h1 h2 => by rw [hiv]; exact specFieldInv_any p n c ks w h1 h2
  replace hiv : Hid (iv = fun ks => numF ks ^ (fldP - 2).toNat) := hiv
  go_wp2_with (fail)
  refine (dFieldInv p n c xs _ hn hx (in_below h k1) hb).mono ?_
  rintro e w2 ⟨ga, ka, ca, ya, rfl, ⟨hka, hya⟩, ra, b2⟩
  have k2 : Below w.heap.size w w2 := below_on k1 b2
  have z2 := b2.size
  go_wp2_with (fail)
  refine (II.out (some ⟨ga, 0, none⟩) ka ca ya _ ra.bytes hya ra.cap).mono ?_
  rintro e w3 ⟨pr1, cr1, rfl, r1, b3⟩
  have k3 : Below w.heap.size w w3 := below_on k2 b3
  have z3 := b3.size
  replace ra := ra.on b3
  go_wp2_with (fail)
  refine (dFieldOf p n c xs _ hn hx (in_below h k3) hb).mono ?_
  rintro e w4 ⟨gb, kb, cb, yb, rfl, ⟨hkb, hyb⟩, rb, b4⟩
  have k4 : Below w.heap.size w w4 := below_on k3 b4
  have z4 := b4.size
  replace ra := ra.on b4
  replace r1 := r1.on b4
  go_wp2_with (fail)
  refine (implFieldOf_any (some ⟨gb, 0, none⟩) kb cb yb _ rb.bytes hyb rb.cap).mono ?_
  rintro e w5 ⟨pr2, cr2, rfl, r2, b5⟩
  have k5 : Below w.heap.size w w5 := below_on k4 b5
  have z5 := b5.size
  replace ra := ra.on b5
  replace r1 := r1.on b5
  replace rb := rb.on b5
  go_wp2_with (fail)
  refine (dFieldNum p n c xs _ hn hx (in_below h k5) hb).mono ?_
  rintro e w6 ⟨nz, rfl, lnz, b6⟩
  have k6 : Below w.heap.size w w6 := below_on k5 b6
  have z6 := b6.size
  replace ra := ra.on b6
  replace r1 := r1.on b6
  replace rb := rb.on b6
  replace r2 := r2.on b6
  clear hx hb
  go_wp2_with (fail)
  refine (IS.out (some ⟨ga, 0, none⟩) ka ca ya _ ra.bytes hya).mono ?_
  rintro e w7 ⟨pr3, cr3, rfl, r3, b7⟩
  have k7 : Below w.heap.size w w7 := below_on k6 b7
  have z7 := b7.size
  replace ra := ra.on b7
  replace r1 := r1.on b7
  replace rb := rb.on b7
  replace r2 := r2.on b7
  go_wp2_with (fail)
  refine (implSame_any pr1 pr3 (oneN ka) (oneN ka) cr1 cr3 (oneL (iv ya) ka) (oneL (iv ya) ka) _ r1.len r3.len r1.bytes r3.bytes).mono ?_
  rintro e w8 ⟨rfl, b8⟩
  have k8 : Below w.heap.size w w8 := below_on k7 b8
  have z8 := b8.size
  replace ra := ra.on b8
  replace r1 := r1.on b8
  replace rb := rb.on b8
  replace r2 := r2.on b8
  replace r3 := r3.on b8
  clear r3
  go_wp2_with (fail)
  refine (specFieldOf_any (some ⟨gb, 0, none⟩) kb cb yb _ rb.bytes hyb).mono ?_
  rintro e w9 ⟨pr4, cr4, rfl, r4, b9⟩
  have k9 : Below w.heap.size w w9 := below_on k8 b9
  have z9 := b9.size
  replace ra := ra.on b9
  replace r1 := r1.on b9
  replace rb := rb.on b9
  replace r2 := r2.on b9
  go_wp2_with (fail)
  refine (implSame_any pr2 pr4 (oneN kb) (oneN kb) cr2 cr4 (oneL (numF yb) kb) (oneL (numF yb) kb) _ r2.len r4.len r2.bytes r4.bytes).mono ?_
  rintro e w10 ⟨rfl, b10⟩
  have k10 : Below w.heap.size w w10 := below_on k9 b10
  have z10 := b10.size
  replace ra := ra.on b10
  replace r1 := r1.on b10
  replace rb := rb.on b10
  replace r2 := r2.on b10
  replace r4 := r4.on b10
  clear r4 rb
  go_wp2_with (fail)
  refine (implFieldNum_any nz _ lnz).mono ?_
  rintro e w11 ⟨pr5, cr5, rfl, r5, b11⟩
  have k11 : Below w.heap.size w w11 := below_on k10 b11
  have z11 := b11.size
  replace ra := ra.on b11
  replace r1 := r1.on b11
  replace r2 := r2.on b11
  go_wp2_with (fail)
  refine (specFieldNum_any nz _ lnz).mono ?_
  rintro e w12 ⟨pr6, cr6, rfl, r6, b12⟩
  have k12 : Below w.heap.size w w12 := below_on k11 b12
  have z12 := b12.size
  replace ra := ra.on b12
  replace r1 := r1.on b12
  replace r2 := r2.on b12
  replace r5 := r5.on b12
  go_wp2_with (fail)
  refine (implSame_any pr5 pr6 32 32 cr5 cr6 (numB (nnZ nz)) (numB (nnZ nz)) _ r5.len r6.len r5.bytes r6.bytes).mono ?_
  rintro e w13 ⟨rfl, b13⟩
  have k13 : Below w.heap.size w w13 := below_on k12 b13
  have z13 := b13.size
  replace ra := ra.on b13
  replace r1 := r1.on b13
  replace r2 := r2.on b13
  replace r5 := r5.on b13
  replace r6 := r6.on b13
  clear r5 r6
  have byR : Hid (∀ v ∈ oneL (numF yb) kb, 0 ≤ v ∧ v < 256) := oneL_byte _ _
  have CF := fun X (hX : BytesIn X pr2 (oneN kb) (oneL (numF yb) kb)) (hc : oneN kb ≤ cr2) => implFieldOf_any pr2 (oneN kb) cr2 (oneL (numF yb) kb) X hX byR.out hc
  simp only [oneN_again, oneL_again] at CF
  go_wp2_with (fail)
  refine (CF _ r2.bytes r2.cap).mono ?_
  rintro e w14 ⟨pr7, cr7, rfl, r7, b14⟩
  have k14 : Below w.heap.size w w14 := below_on k13 b14
  have z14 := b14.size
  replace ra := ra.on b14
  replace r1 := r1.on b14
  replace r2 := r2.on b14
  clear CF
  go_wp2_with (fail)
  refine (implSame_any pr7 pr2 (oneN kb) (oneN kb) cr7 cr2 (oneL (numF yb) kb) (oneL (numF yb) kb) _ r7.len r2.len r7.bytes r2.bytes).mono ?_
  rintro e w15 ⟨rfl, b15⟩
  have k15 : Below w.heap.size w w15 := below_on k14 b15
  have z15 := b15.size
  replace ra := ra.on b15
  replace r1 := r1.on b15
  replace r2 := r2.on b15
  replace r7 := r7.on b15
  clear r7 r2
  clear hyb hkb byR lnz
  clear b1 b2 b3 b4 b5 b6 b7 b8 b9 b10 b11 b12 b13 b14 b15 z1 z2 z3 z4 z5 z6 z7 z8 z9 z10 z11 z12 z13 z14 z15
  have hE := k15
  clear k1 k2 k3 k4 k5 k6 k7 k8 k9 k10 k11 k12 k13 k14 k15
  by_cases ea : ka = 32
  · subst ea
    rw [oneN_32, oneL_32] at r1
    rw [oneN_32]
    obtain ⟨x, hxe⟩ : ∃ x, x = numF ya := ⟨_, rfl⟩
    obtain ⟨E, hEE⟩ : ∃ E, E = (fldP - 2).toNat := ⟨_, rfl⟩
    have eiv : iv ya = x ^ E := by rw [hiv.out, hxe, hEE]
    rw [eiv] at r1
    obtain ⟨u, hu⟩ : ∃ u, u = x % fldP := ⟨_, rfl⟩
    obtain ⟨v, hv⟩ : ∃ v, v = x ^ E % fldP := ⟨_, rfl⟩
    rw [← hv] at r1
    have lu : 0 ≤ u ∧ u < fldP := by rw [hu]; exact modP_range _
    have lv : 0 ≤ v ∧ v < fldP := by rw [hv]; exact modP_range _
    have hof : Hid (numF ya % fldP = u) := by rw [Hid, ← hxe, hu]
    have nv : Hid (numF (numB v) = v) := numF_numB lv.1 lv.2
    have bv : Hid (∀ q ∈ numB v, 0 ≤ q ∧ q < 256) := numB_byte v
    have hzero : Hid (u = 0 → v = 0) := fun hu0 => by
      have hE0 : (fldP - 2).toNat = ((fldP - 2).toNat - 1) + 1 := by decide
      have hE1 : E = (E - 1) + 1 := by rw [hEE]; exact hE0
      rw [hv, ← left_pow, ← hu, hu0, hE1, Int.pow_succ, Int.mul_zero]
      rfl
    have hone : Hid (u ≠ 0 → (x * v) % fldP = 1) := fun hu0 => by
      have := fermatP x (by rw [← hu]; exact hu0)
      rw [← hEE, Int.pow_succ] at this
      rw [hv, right_mul, Int.mul_comm]
      exact this
    have hback : Hid (u ≠ 0 → numF (numB v) ^ (fldP - 2).toNat % fldP = u) := fun hu0 => by
      have := fermat_back x (by rw [← hu]; exact hu0)
      rw [nv.out, hu, ← this, hv, hEE, left_pow]
    have hxs : Hid (numF ya = x) := hxe.symm
    clear hxe hu hv eiv
    replace hEE : Hid (E = (fldP - 2).toNat) := hEE
    by_cases hu0 : u = 0
    · have hv0 := hzero.out hu0
      rw [hv0] at r1
      rw [hu0] at hof
      clear hback hone hzero nv bv lu lv hv0
      go_wp2_with (fail)
      refine (wNum 0 _ (by omega) (by omega)).mono ?_
      rintro e w1 ⟨pr51, cr51, rfl, r51, b1⟩
      have k1 : Below w15.heap.size w15 w1 := below_on (Below.refl _ _) b1
      have z1 := b1.size
      replace ra := ra.on b1
      replace r1 := r1.on b1
      go_wp2_with (fail)
      refine (wOf (some ⟨ga, 0, none⟩) ca 0 ya _ hof.out ra.bytes hya ra.cap).mono ?_
      rintro e w2 ⟨pr52, cr52, rfl, r52, b2⟩
      have k2 : Below w15.heap.size w15 w2 := below_on k1 b2
      have z2 := b2.size
      replace ra := ra.on b2
      replace r1 := r1.on b2
      replace r51 := r51.on b2
      go_wp2_with (fail)
      refine (implSame_any pr52 pr51 32 32 cr52 cr51 (numB 0) (numB 0) _ r52.len r51.len r52.bytes r51.bytes).mono ?_
      rintro e w3 ⟨rfl, b3⟩
      have k3 : Below w15.heap.size w15 w3 := below_on k2 b3
      have z3 := b3.size
      replace ra := ra.on b3
      replace r1 := r1.on b3
      replace r51 := r51.on b3
      replace r52 := r52.on b3
      go_wp2_with (fail)
      refine (implSame_any pr1 pr51 32 32 cr1 cr51 (numB 0) (numB 0) _ r1.len r51.len r1.bytes r51.bytes).mono ?_
      rintro e w4 ⟨rfl, b4⟩
      have k4 : Below w15.heap.size w15 w4 := below_on k3 b4
      have z4 := b4.size
      replace ra := ra.on b4
      replace r1 := r1.on b4
      replace r51 := r51.on b4
      replace r52 := r52.on b4
      go_wp2_with (fail)
      go_ret
      exact ⟨rfl, below_on hE k4⟩
    · have h1 := hone.out hu0
      have h2 := hback.out hu0
      have hns := same_not lu.1 lu.2 (Int.le_refl 0) fldP_pos hu0
      replace h1 : Hid ((x * v) % fldP = 1) := h1
      replace h2 : Hid (numF (numB v) ^ (fldP - 2).toNat % fldP = u) := h2
      clear hzero hone hback lu lv hu0
      go_wp2_with (fail)
      refine (wNum 0 _ (by omega) (by omega)).mono ?_
      rintro e w1 ⟨pr51, cr51, rfl, r51, b1⟩
      have k1 : Below w15.heap.size w15 w1 := below_on (Below.refl _ _) b1
      have z1 := b1.size
      replace ra := ra.on b1
      replace r1 := r1.on b1
      go_wp2_with (fail)
      refine (wOf (some ⟨ga, 0, none⟩) ca u ya _ hof.out ra.bytes hya ra.cap).mono ?_
      rintro e w2 ⟨pr52, cr52, rfl, r52, b2⟩
      have k2 : Below w15.heap.size w15 w2 := below_on k1 b2
      have z2 := b2.size
      replace ra := ra.on b2
      replace r1 := r1.on b2
      replace r51 := r51.on b2
      go_wp2_with (fail)
      refine (implSame_any pr52 pr51 32 32 cr52 cr51 (numB u) (numB 0) _ r52.len r51.len r52.bytes r51.bytes).mono ?_
      rintro e w3 ⟨rfl, b3⟩
      rw [hns]
      have k3 : Below w15.heap.size w15 w3 := below_on k2 b3
      have z3 := b3.size
      replace ra := ra.on b3
      replace r1 := r1.on b3
      replace r51 := r51.on b3
      replace r52 := r52.on b3
      clear r51 r52
      go_wp2_with (fail)
      refine (wFieldMul (some ⟨ga, 0, none⟩) pr1 ca cr1 x v 1 ya (numB v) _ hxs.out nv.out h1.out ra.bytes r1.bytes hya bv.out ra.cap r1.cap).mono ?_
      rintro e w4 ⟨pr53, cr53, rfl, r53, b4⟩
      have k4 : Below w15.heap.size w15 w4 := below_on k3 b4
      have z4 := b4.size
      replace ra := ra.on b4
      replace r1 := r1.on b4
      go_wp2_with (fail)
      refine (wNum 1 _ (by omega) (by omega)).mono ?_
      rintro e w5 ⟨pr54, cr54, rfl, r54, b5⟩
      have k5 : Below w15.heap.size w15 w5 := below_on k4 b5
      have z5 := b5.size
      replace ra := ra.on b5
      replace r1 := r1.on b5
      replace r53 := r53.on b5
      go_wp2_with (fail)
      refine (implSame_any pr53 pr54 32 32 cr53 cr54 (numB 1) (numB 1) _ r53.len r54.len r53.bytes r54.bytes).mono ?_
      rintro e w6 ⟨rfl, b6⟩
      have k6 : Below w15.heap.size w15 w6 := below_on k5 b6
      have z6 := b6.size
      replace ra := ra.on b6
      replace r1 := r1.on b6
      replace r53 := r53.on b6
      replace r54 := r54.on b6
      clear r53 r54
      go_wp2_with (fail)
      refine (wInv pr1 cr1 u (numB v) _ h2.out r1.bytes bv.out r1.cap).mono ?_
      rintro e w7 ⟨pr55, cr55, rfl, r55, b7⟩
      have k7 : Below w15.heap.size w15 w7 := below_on k6 b7
      have z7 := b7.size
      replace ra := ra.on b7
      replace r1 := r1.on b7
      go_wp2_with (fail)
      refine (wOf (some ⟨ga, 0, none⟩) ca u ya _ hof.out ra.bytes hya ra.cap).mono ?_
      rintro e w8 ⟨pr56, cr56, rfl, r56, b8⟩
      have k8 : Below w15.heap.size w15 w8 := below_on k7 b8
      have z8 := b8.size
      replace ra := ra.on b8
      replace r1 := r1.on b8
      replace r55 := r55.on b8
      go_wp2_with (fail)
      refine (implSame_any pr55 pr56 32 32 cr55 cr56 (numB u) (numB u) _ r55.len r56.len r55.bytes r56.bytes).mono ?_
      rintro e w9 ⟨rfl, b9⟩
      have k9 : Below w15.heap.size w15 w9 := below_on k8 b9
      have z9 := b9.size
      replace ra := ra.on b9
      replace r1 := r1.on b9
      replace r55 := r55.on b9
      replace r56 := r56.on b9
      go_wp2_with (fail)
      go_ret
      exact ⟨rfl, below_on hE k9⟩
  · have ea' : ((ka : Int) != 32) = true := by simp; omega
    have e0 : oneN ka = 0 := if_neg ea
    rw [e0]
    go_wp2_with (fail)
    go_ret
    exact ⟨rfl, hE⟩

theorem fnInverse_law (p : Option Addr) (n c : Nat) (xs : List Int) (w : World) (hx : xs.length = n) (h : BytesIn w p n xs) (hb : ∀ x ∈ xs, 0 ≤ x ∧ x < 256) :
    Calls Try.prog 4 #[.slice p n c] w fun e w' => e = .returned (.bool true) ∧ Below w.heap.size w w' := by
  by_cases hn : n ≤ 1048576
  · exact fnInverse_small p n c xs w hn hx h hb
  · clear hx h hb
    have C := fun X => big_great p n c X hn
    go_enter Try.func4, Try.ntmps4
    go_wp2_with (fail)
    refine (C _).mono ?_
    rintro e w1 ⟨rfl, b1⟩
    go_wp2
    go_ret
    exact ⟨rfl, b1⟩

end Go.Proofs.Ytoolfgbghhbjmac
