/-
  FnField returns true for any code, and writes nothing that was there; condition: bytes all.
-/
import Derived.Test.YtoolfgbghhbjmacFieldX
import Derived.Test.YtoolfgbghhbjmacDraw8
import Derived.Test.YtoolfgbghhbjmacSame
import Derived.Test.YtoolfgbghhbjmacBig
namespace Go.Proofs.Ytoolfgbghhbjmac
open Go.RowKit

set_option maxRecDepth 100000 in
set_option maxHeartbeats 16000000 in
theorem fnField_small (p : Option Addr) (n c : Nat) (xs : List Int) (w : World) (hn : n ≤ 1048576) (hx : xs.length = n) (h : BytesIn w p n xs) (hb : ∀ x ∈ xs, 0 ≤ x ∧ x < 256) :
    Calls Try.prog 3 #[.slice p n c] w fun e w' => e = .returned (.bool true) ∧ Below w.heap.size w w' := by
  go_enter Try.func3, Try.ntmps3
  go_wp2_with (fail)
  refine (big_small p n c _ hn).mono ?_
  rintro e w1 ⟨rfl, b1⟩
  have k1 : Below w.heap.size w w1 := below_on (Below.refl _ _) b1
  have z1 := b1.size
  go_wp2_with (fail)
  refine (dFieldMul p n c xs _ hn hx (in_below h k1) hb).mono ?_
  rintro e w2 ⟨ga, ka, ca, ya, gb, kb, cb, yb, rfl, ⟨hka, hkb, hya, hyb⟩, ra, rb, b2⟩
  have k2 : Below w.heap.size w w2 := below_on k1 b2
  have z2 := b2.size
  go_wp2_with (fail)
  refine (dFieldAdd p n c xs _ hn hx (in_below h k2) hb).mono ?_
  rintro e w3 ⟨gc, kc, cc, yc, gd, kd, cd, yd, rfl, ⟨hkc, hkd, hyc, hyd⟩, rc, rd, b3⟩
  have k3 : Below w.heap.size w w3 := below_on k2 b3
  have z3 := b3.size
  replace ra := ra.on b3
  replace rb := rb.on b3
  go_wp2_with (fail)
  refine (dFieldSub p n c xs _ hn hx (in_below h k3) hb).mono ?_
  rintro e w4 ⟨ge, ke, ce, ye, gf, kf, cf, yf, rfl, ⟨hke, hkf, hye, hyf⟩, re, rf, b4⟩
  have k4 : Below w.heap.size w w4 := below_on k3 b4
  have z4 := b4.size
  replace ra := ra.on b4
  replace rb := rb.on b4
  replace rc := rc.on b4
  replace rd := rd.on b4
  clear hx hb
  go_wp2_with (fail)
  refine (implFieldMul_any (some ⟨ga, 0, none⟩) (some ⟨gb, 0, none⟩) ka kb ca cb ya yb _ ra.bytes rb.bytes hya hyb ra.cap rb.cap).mono ?_
  rintro e w5 ⟨pr1, cr1, rfl, r1, b5⟩
  have k5 : Below w.heap.size w w5 := below_on k4 b5
  have z5 := b5.size
  replace ra := ra.on b5
  replace rb := rb.on b5
  replace rc := rc.on b5
  replace rd := rd.on b5
  replace re := re.on b5
  replace rf := rf.on b5
  go_wp2_with (fail)
  refine (implFieldAdd_any (some ⟨gc, 0, none⟩) (some ⟨gd, 0, none⟩) kc kd cc cd yc yd _ rc.bytes rd.bytes hyc hyd rc.cap rd.cap).mono ?_
  rintro e w6 ⟨pr2, cr2, rfl, r2, b6⟩
  have k6 : Below w.heap.size w w6 := below_on k5 b6
  have z6 := b6.size
  replace ra := ra.on b6
  replace rb := rb.on b6
  replace rc := rc.on b6
  replace rd := rd.on b6
  replace re := re.on b6
  replace rf := rf.on b6
  replace r1 := r1.on b6
  go_wp2_with (fail)
  refine (implFieldSub_any (some ⟨ge, 0, none⟩) (some ⟨gf, 0, none⟩) ke kf ce cf ye yf _ re.bytes rf.bytes hye hyf re.cap rf.cap).mono ?_
  rintro e w7 ⟨pr3, cr3, rfl, r3, b7⟩
  have k7 : Below w.heap.size w w7 := below_on k6 b7
  have z7 := b7.size
  replace ra := ra.on b7
  replace rb := rb.on b7
  replace rc := rc.on b7
  replace rd := rd.on b7
  replace re := re.on b7
  replace rf := rf.on b7
  replace r1 := r1.on b7
  replace r2 := r2.on b7
  go_wp2_with (fail)
  refine (specFieldMul_any (some ⟨ga, 0, none⟩) (some ⟨gb, 0, none⟩) ka kb ca cb ya yb _ ra.bytes rb.bytes hya hyb).mono ?_
  rintro e w8 ⟨pr4, cr4, rfl, r4, b8⟩
  have k8 : Below w.heap.size w w8 := below_on k7 b8
  have z8 := b8.size
  replace ra := ra.on b8
  replace rb := rb.on b8
  replace rc := rc.on b8
  replace rd := rd.on b8
  replace re := re.on b8
  replace rf := rf.on b8
  replace r1 := r1.on b8
  replace r2 := r2.on b8
  replace r3 := r3.on b8
  go_wp2_with (fail)
  refine (implSame_any pr1 pr4 (fldN ka kb) (fldN ka kb) cr1 cr4 (fldL (numF ya * numF yb) ka kb) (fldL (numF ya * numF yb) ka kb) _ r1.len r4.len r1.bytes r4.bytes).mono ?_
  rintro e w9 ⟨rfl, b9⟩
  have k9 : Below w.heap.size w w9 := below_on k8 b9
  have z9 := b9.size
  replace ra := ra.on b9
  replace rb := rb.on b9
  replace rc := rc.on b9
  replace rd := rd.on b9
  replace re := re.on b9
  replace rf := rf.on b9
  replace r1 := r1.on b9
  replace r2 := r2.on b9
  replace r3 := r3.on b9
  replace r4 := r4.on b9
  clear r4
  go_wp2_with (fail)
  refine (specFieldAdd_any (some ⟨gc, 0, none⟩) (some ⟨gd, 0, none⟩) kc kd cc cd yc yd _ rc.bytes rd.bytes hyc hyd).mono ?_
  rintro e w10 ⟨pr5, cr5, rfl, r5, b10⟩
  have k10 : Below w.heap.size w w10 := below_on k9 b10
  have z10 := b10.size
  replace ra := ra.on b10
  replace rb := rb.on b10
  replace rc := rc.on b10
  replace rd := rd.on b10
  replace re := re.on b10
  replace rf := rf.on b10
  replace r1 := r1.on b10
  replace r2 := r2.on b10
  replace r3 := r3.on b10
  go_wp2_with (fail)
  refine (implSame_any pr2 pr5 (fldN kc kd) (fldN kc kd) cr2 cr5 (fldL (numF yc + numF yd) kc kd) (fldL (numF yc + numF yd) kc kd) _ r2.len r5.len r2.bytes r5.bytes).mono ?_
  rintro e w11 ⟨rfl, b11⟩
  have k11 : Below w.heap.size w w11 := below_on k10 b11
  have z11 := b11.size
  replace ra := ra.on b11
  replace rb := rb.on b11
  replace rc := rc.on b11
  replace rd := rd.on b11
  replace re := re.on b11
  replace rf := rf.on b11
  replace r1 := r1.on b11
  replace r2 := r2.on b11
  replace r3 := r3.on b11
  replace r5 := r5.on b11
  clear r5 r2 rd
  go_wp2_with (fail)
  refine (specFieldSub_any (some ⟨ge, 0, none⟩) (some ⟨gf, 0, none⟩) ke kf ce cf ye yf _ re.bytes rf.bytes hye hyf).mono ?_
  rintro e w12 ⟨pr6, cr6, rfl, r6, b12⟩
  have k12 : Below w.heap.size w w12 := below_on k11 b12
  have z12 := b12.size
  replace ra := ra.on b12
  replace rb := rb.on b12
  replace rc := rc.on b12
  replace re := re.on b12
  replace rf := rf.on b12
  replace r1 := r1.on b12
  replace r3 := r3.on b12
  go_wp2_with (fail)
  refine (implSame_any pr3 pr6 (fldN ke kf) (fldN ke kf) cr3 cr6 (fldL (numF ye - numF yf) ke kf) (fldL (numF ye - numF yf) ke kf) _ r3.len r6.len r3.bytes r6.bytes).mono ?_
  rintro e w13 ⟨rfl, b13⟩
  have k13 : Below w.heap.size w w13 := below_on k12 b13
  have z13 := b13.size
  replace ra := ra.on b13
  replace rb := rb.on b13
  replace rc := rc.on b13
  replace re := re.on b13
  replace rf := rf.on b13
  replace r1 := r1.on b13
  replace r3 := r3.on b13
  replace r6 := r6.on b13
  clear r6 r3 re rf
  clear hyd hye hyf hkd hke hkf
  clear b1 b2 b3 b4 b5 b6 b7 b8 b9 b10 b11 b12 b13 z1 z2 z3 z4 z5 z6 z7 z8 z9 z10 z11 z12 z13
  have hE := k13
  clear k1 k2 k3 k4 k5 k6 k7 k8 k9 k10 k11 k12 k13
  by_cases ea : ka = 32
  · subst ea
    by_cases eb : kb = 32
    · subst eb
      by_cases ec : kc = 32
      · subst ec
        rw [fldN_32, fldL_32] at r1
        rw [fldN_32]
        obtain ⟨x, hxe⟩ : ∃ x, x = numF ya := ⟨_, rfl⟩
        obtain ⟨y, hye⟩ : ∃ y, y = numF yb := ⟨_, rfl⟩
        obtain ⟨z, hze⟩ : ∃ z, z = numF yc := ⟨_, rfl⟩
        rw [← hxe, ← hye] at r1
        obtain ⟨zm, hzm⟩ : ∃ zm, zm = (x * y) % fldP := ⟨_, rfl⟩
        rw [← hzm] at r1
        obtain ⟨zs, hzs⟩ : ∃ zs, zs = (x + y) % fldP := ⟨_, rfl⟩
        obtain ⟨zl, hzl⟩ : ∃ zl, zl = (zs * z) % fldP := ⟨_, rfl⟩
        obtain ⟨zu, hzu⟩ : ∃ zu, zu = (x * z) % fldP := ⟨_, rfl⟩
        obtain ⟨zt, hzt⟩ : ∃ zt, zt = (y * z) % fldP := ⟨_, rfl⟩
        obtain ⟨zq, hzq⟩ : ∃ zq, zq = (zm * z) % fldP := ⟨_, rfl⟩
        obtain ⟨zo, hzo⟩ : ∃ zo, zo = x % fldP := ⟨_, rfl⟩
        have rg : ∀ v : Int, 0 ≤ v % fldP ∧ v % fldP < fldP := modP_range
        have nzm : Hid (numF (numB zm) = zm) := by rw [hzm]; exact numF_numB (rg _).1 (rg _).2
        have bzm : Hid (∀ v ∈ numB zm, 0 ≤ v ∧ v < 256) := numB_byte zm
        have nzs : Hid (numF (numB zs) = zs) := by rw [hzs]; exact numF_numB (rg _).1 (rg _).2
        have bzs : Hid (∀ v ∈ numB zs, 0 ≤ v ∧ v < 256) := numB_byte zs
        have nzl : Hid (numF (numB zl) = zl) := by rw [hzl]; exact numF_numB (rg _).1 (rg _).2
        have bzl : Hid (∀ v ∈ numB zl, 0 ≤ v ∧ v < 256) := numB_byte zl
        have nzu : Hid (numF (numB zu) = zu) := by rw [hzu]; exact numF_numB (rg _).1 (rg _).2
        have bzu : Hid (∀ v ∈ numB zu, 0 ≤ v ∧ v < 256) := numB_byte zu
        have nzt : Hid (numF (numB zt) = zt) := by rw [hzt]; exact numF_numB (rg _).1 (rg _).2
        have bzt : Hid (∀ v ∈ numB zt, 0 ≤ v ∧ v < 256) := numB_byte zt
        have nzq : Hid (numF (numB zq) = zq) := by rw [hzq]; exact numF_numB (rg _).1 (rg _).2
        have bzq : Hid (∀ v ∈ numB zq, 0 ≤ v ∧ v < 256) := numB_byte zq
        have nzo : Hid (numF (numB zo) = zo) := by rw [hzo]; exact numF_numB (rg _).1 (rg _).2
        have bzo : Hid (∀ v ∈ numB zo, 0 ≤ v ∧ v < 256) := numB_byte zo
        have eba : Hid ((y * x) % fldP = zm) := by rw [Hid, Int.mul_comm, hzm]
        have elr : Hid ((zu + zt) % fldP = zl) := by rw [Hid, hzu, hzt, hzl, hzs, both_add, left_mul, Int.add_mul]
        have eq2 : Hid ((x * zt) % fldP = zq) := by rw [Hid, hzt, hzq, hzm, right_mul, left_mul, Int.mul_assoc]
        have eso : Hid ((zs - y) % fldP = zo) := by rw [Hid, hzs, hzo, left_sub, Int.add_sub_cancel]
        replace hxe : Hid (numF ya = x) := hxe.symm
        replace hye : Hid (numF yb = y) := hye.symm
        replace hze : Hid (numF yc = z) := hze.symm
        have hof : Hid (numF ya % fldP = zo) := by rw [Hid, hxe.out, hzo]
        replace hzm : Hid ((x * y) % fldP = zm) := hzm.symm
        replace hzs : Hid ((x + y) % fldP = zs) := hzs.symm
        replace hzl : Hid ((zs * z) % fldP = zl) := hzl.symm
        replace hzu : Hid ((x * z) % fldP = zu) := hzu.symm
        replace hzt : Hid ((y * z) % fldP = zt) := hzt.symm
        replace hzq : Hid ((zm * z) % fldP = zq) := hzq.symm
        replace hzo : Hid (x % fldP = zo) := hzo.symm
        clear rg
        go_wp2_with (fail)
        refine (wFieldAdd (some ⟨ga, 0, none⟩) (some ⟨gb, 0, none⟩) ca cb x y zs ya yb _ hxe.out hye.out hzs.out ra.bytes rb.bytes hya hyb ra.cap rb.cap).mono ?_
        rintro e wv1 ⟨pr51, cr51, rfl, r51, b1⟩
        have k1 : Below w13.heap.size w13 wv1 := below_on (Below.refl _ _) b1
        have z1 := b1.size
        replace ra := ra.on b1
        replace rb := rb.on b1
        replace rc := rc.on b1
        replace r1 := r1.on b1
        go_wp2_with (fail)
        refine (wFieldMul pr51 (some ⟨gc, 0, none⟩) cr51 cc zs z zl (numB zs) yc _ nzs.out hze.out hzl.out r51.bytes rc.bytes bzs.out hyc r51.cap rc.cap).mono ?_
        rintro e wv2 ⟨pr52, cr52, rfl, r52, b2⟩
        have k2 : Below w13.heap.size w13 wv2 := below_on k1 b2
        have z2 := b2.size
        replace ra := ra.on b2
        replace rb := rb.on b2
        replace rc := rc.on b2
        replace r1 := r1.on b2
        replace r51 := r51.on b2
        clear r51
        go_wp2_with (fail)
        refine (wFieldMul (some ⟨ga, 0, none⟩) (some ⟨gc, 0, none⟩) ca cc x z zu ya yc _ hxe.out hze.out hzu.out ra.bytes rc.bytes hya hyc ra.cap rc.cap).mono ?_
        rintro e wv3 ⟨pr53, cr53, rfl, r53, b3⟩
        have k3 : Below w13.heap.size w13 wv3 := below_on k2 b3
        have z3 := b3.size
        replace ra := ra.on b3
        replace rb := rb.on b3
        replace rc := rc.on b3
        replace r1 := r1.on b3
        replace r52 := r52.on b3
        go_wp2_with (fail)
        refine (wFieldMul (some ⟨gb, 0, none⟩) (some ⟨gc, 0, none⟩) cb cc y z zt yb yc _ hye.out hze.out hzt.out rb.bytes rc.bytes hyb hyc rb.cap rc.cap).mono ?_
        rintro e wv4 ⟨pr54, cr54, rfl, r54, b4⟩
        have k4 : Below w13.heap.size w13 wv4 := below_on k3 b4
        have z4 := b4.size
        replace ra := ra.on b4
        replace rb := rb.on b4
        replace rc := rc.on b4
        replace r1 := r1.on b4
        replace r52 := r52.on b4
        replace r53 := r53.on b4
        go_wp2_with (fail)
        refine (wFieldAdd pr53 pr54 cr53 cr54 zu zt zl (numB zu) (numB zt) _ nzu.out nzt.out elr.out r53.bytes r54.bytes bzu.out bzt.out r53.cap r54.cap).mono ?_
        rintro e wv5 ⟨pr55, cr55, rfl, r55, b5⟩
        have k5 : Below w13.heap.size w13 wv5 := below_on k4 b5
        have z5 := b5.size
        replace ra := ra.on b5
        replace rb := rb.on b5
        replace rc := rc.on b5
        replace r1 := r1.on b5
        replace r52 := r52.on b5
        replace r53 := r53.on b5
        replace r54 := r54.on b5
        clear r53 r54
        go_wp2_with (fail)
        refine (wFieldMul (some ⟨gb, 0, none⟩) (some ⟨ga, 0, none⟩) cb ca y x zm yb ya _ hye.out hxe.out eba.out rb.bytes ra.bytes hyb hya rb.cap ra.cap).mono ?_
        rintro e wv6 ⟨pr56, cr56, rfl, r56, b6⟩
        have k6 : Below w13.heap.size w13 wv6 := below_on k5 b6
        have z6 := b6.size
        replace ra := ra.on b6
        replace rb := rb.on b6
        replace rc := rc.on b6
        replace r1 := r1.on b6
        replace r52 := r52.on b6
        replace r55 := r55.on b6
        go_wp2_with (fail)
        refine (implSame_any pr1 pr56 32 32 cr1 cr56 (numB zm) (numB zm) _ r1.len r56.len r1.bytes r56.bytes).mono ?_
        rintro e wv7 ⟨rfl, b7⟩
        have k7 : Below w13.heap.size w13 wv7 := below_on k6 b7
        have z7 := b7.size
        replace ra := ra.on b7
        replace rb := rb.on b7
        replace rc := rc.on b7
        replace r1 := r1.on b7
        replace r52 := r52.on b7
        replace r55 := r55.on b7
        replace r56 := r56.on b7
        clear r56
        go_wp2_with (fail)
        refine (implSame_any pr52 pr55 32 32 cr52 cr55 (numB zl) (numB zl) _ r52.len r55.len r52.bytes r55.bytes).mono ?_
        rintro e wv8 ⟨rfl, b8⟩
        have k8 : Below w13.heap.size w13 wv8 := below_on k7 b8
        have z8 := b8.size
        replace ra := ra.on b8
        replace rb := rb.on b8
        replace rc := rc.on b8
        replace r1 := r1.on b8
        replace r52 := r52.on b8
        replace r55 := r55.on b8
        clear r52 r55
        go_wp2_with (fail)
        refine (wFieldMul pr1 (some ⟨gc, 0, none⟩) cr1 cc zm z zq (numB zm) yc _ nzm.out hze.out hzq.out r1.bytes rc.bytes bzm.out hyc r1.cap rc.cap).mono ?_
        rintro e wv9 ⟨pr57, cr57, rfl, r57, b9⟩
        have k9 : Below w13.heap.size w13 wv9 := below_on k8 b9
        have z9 := b9.size
        replace ra := ra.on b9
        replace rb := rb.on b9
        replace rc := rc.on b9
        replace r1 := r1.on b9
        go_wp2_with (fail)
        refine (wFieldMul (some ⟨gb, 0, none⟩) (some ⟨gc, 0, none⟩) cb cc y z zt yb yc _ hye.out hze.out hzt.out rb.bytes rc.bytes hyb hyc rb.cap rc.cap).mono ?_
        rintro e wv10 ⟨pr58, cr58, rfl, r58, b10⟩
        have k10 : Below w13.heap.size w13 wv10 := below_on k9 b10
        have z10 := b10.size
        replace ra := ra.on b10
        replace rb := rb.on b10
        replace rc := rc.on b10
        replace r1 := r1.on b10
        replace r57 := r57.on b10
        go_wp2_with (fail)
        refine (wFieldMul (some ⟨ga, 0, none⟩) pr58 ca cr58 x zt zq ya (numB zt) _ hxe.out nzt.out eq2.out ra.bytes r58.bytes hya bzt.out ra.cap r58.cap).mono ?_
        rintro e wv11 ⟨pr59, cr59, rfl, r59, b11⟩
        have k11 : Below w13.heap.size w13 wv11 := below_on k10 b11
        have z11 := b11.size
        replace ra := ra.on b11
        replace rb := rb.on b11
        replace rc := rc.on b11
        replace r1 := r1.on b11
        replace r57 := r57.on b11
        replace r58 := r58.on b11
        go_wp2_with (fail)
        refine (implSame_any pr57 pr59 32 32 cr57 cr59 (numB zq) (numB zq) _ r57.len r59.len r57.bytes r59.bytes).mono ?_
        rintro e wv12 ⟨rfl, b12⟩
        have k12 : Below w13.heap.size w13 wv12 := below_on k11 b12
        have z12 := b12.size
        replace ra := ra.on b12
        replace rb := rb.on b12
        replace rc := rc.on b12
        replace r1 := r1.on b12
        replace r57 := r57.on b12
        replace r58 := r58.on b12
        replace r59 := r59.on b12
        clear r57 r58 r59
        go_wp2_with (fail)
        refine (wFieldAdd (some ⟨ga, 0, none⟩) (some ⟨gb, 0, none⟩) ca cb x y zs ya yb _ hxe.out hye.out hzs.out ra.bytes rb.bytes hya hyb ra.cap rb.cap).mono ?_
        rintro e wv13 ⟨pr60, cr60, rfl, r60, b13⟩
        have k13 : Below w13.heap.size w13 wv13 := below_on k12 b13
        have z13 := b13.size
        replace ra := ra.on b13
        replace rb := rb.on b13
        replace rc := rc.on b13
        replace r1 := r1.on b13
        go_wp2_with (fail)
        refine (wFieldSub pr60 (some ⟨gb, 0, none⟩) cr60 cb zs y zo (numB zs) yb _ nzs.out hye.out eso.out r60.bytes rb.bytes bzs.out hyb r60.cap rb.cap).mono ?_
        rintro e wv14 ⟨pr61, cr61, rfl, r61, b14⟩
        have k14 : Below w13.heap.size w13 wv14 := below_on k13 b14
        have z14 := b14.size
        replace ra := ra.on b14
        replace rb := rb.on b14
        replace rc := rc.on b14
        replace r1 := r1.on b14
        replace r60 := r60.on b14
        go_wp2_with (fail)
        refine (wOf (some ⟨ga, 0, none⟩) ca zo ya _ hof.out ra.bytes hya ra.cap).mono ?_
        rintro e wv15 ⟨pr62, cr62, rfl, r62, b15⟩
        have k15 : Below w13.heap.size w13 wv15 := below_on k14 b15
        have z15 := b15.size
        replace ra := ra.on b15
        replace rb := rb.on b15
        replace rc := rc.on b15
        replace r1 := r1.on b15
        replace r60 := r60.on b15
        replace r61 := r61.on b15
        go_wp2_with (fail)
        refine (implSame_any pr61 pr62 32 32 cr61 cr62 (numB zo) (numB zo) _ r61.len r62.len r61.bytes r62.bytes).mono ?_
        rintro e wv16 ⟨rfl, b16⟩
        have k16 : Below w13.heap.size w13 wv16 := below_on k15 b16
        have z16 := b16.size
        replace ra := ra.on b16
        replace rb := rb.on b16
        replace rc := rc.on b16
        replace r1 := r1.on b16
        replace r60 := r60.on b16
        replace r61 := r61.on b16
        replace r62 := r62.on b16
        go_wp2_with (fail)
        go_ret
        exact ⟨rfl, below_on hE k16⟩
      · have ec' : ((kc : Int) != 32) = true := by simp; omega
        rw [fldN_32]
        go_wp2_with (fail)
        go_ret
        exact ⟨rfl, hE⟩
    · have eb' : ((kb : Int) != 32) = true := by simp; omega
      have eb2 : ((kb : Int) == 32) = false := by simp; omega
      have e0 : fldN 32 kb = 0 := if_neg (fun hh => eb hh.2)
      rw [e0]
      go_wp2_with (fail)
      go_ret
      exact ⟨rfl, hE⟩
  · have ea' : ((ka : Int) != 32) = true := by simp; omega
    have ea2 : ((ka : Int) == 32) = false := by simp; omega
    have e0 : fldN ka kb = 0 := if_neg (fun hh => ea hh.1)
    rw [e0]
    go_wp2_with (fail)
    go_ret
    exact ⟨rfl, hE⟩

theorem fnField_law (p : Option Addr) (n c : Nat) (xs : List Int) (w : World) (hx : xs.length = n) (h : BytesIn w p n xs) (hb : ∀ x ∈ xs, 0 ≤ x ∧ x < 256) :
    Calls Try.prog 3 #[.slice p n c] w fun e w' => e = .returned (.bool true) ∧ Below w.heap.size w w' := by
  by_cases hn : n ≤ 1048576
  · exact fnField_small p n c xs w hn hx h hb
  · clear hx h hb
    have C := fun X => big_great p n c X hn
    go_enter Try.func3, Try.ntmps3
    go_wp2_with (fail)
    refine (C _).mono ?_
    rintro e w1 ⟨rfl, b1⟩
    go_wp2
    go_ret
    exact ⟨rfl, b1⟩

end Go.Proofs.Ytoolfgbghhbjmac
