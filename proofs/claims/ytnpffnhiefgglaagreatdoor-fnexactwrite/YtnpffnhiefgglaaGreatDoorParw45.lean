/-
  A part of the proof.
-/
import Derived.Test.YtnpffnhiefgglaaGreatDoorParw44
import Derived.Test.YtnpffnhiefgglaaGreatDoorParw23
import Derived.Test.YtnpffnhiefgglaaGreatDoorParw29
import Derived.Lib.LaidTab
namespace Go.Proofs.YtnpffnhiefgglaaGreatDoor
open Go Go.Conc Go.RowKit
set_option maxRecDepth 100000
def bLW : Frame := { (default : Frame) with fn := 4, kind := .normal }
noncomputable def bodyLW : Code := Tryz.f4.body.getD .skip
theorem enter_LW (x y z u : Value) : Frame.enter Tryz.prog 4 #[x, y, z, u] .normal = bLW.at ⟨#[x, y, z, u] ++ Array.replicate 136 undef, []⟩ [.code bodyLW] := by
  simp [Frame.enter, Frame.at, bLW, bodyLW, Tryz.func4, Tryz.f4]
theorem noFLW (tmps : Array Value) : ∀ t, alsS.f bLW.fn t = true → FnV alsS (tmps.getD t undef) := fun t h => by simp [alsS, bLW] at h
set_option maxHeartbeats 32000000 in
theorem lawWrite_bes (p0 p1 p3 : Option Addr) (n0 q0 n1 q1 n3 q3 : Nat) (xs0 xs1 xs3 : List Int) (e : Int) (C : Array Value) (ce : TypeId) (W : World) (hg : Gk C ce W) (he : e ≤ 9223372036854775807) (hx0 : xs0.length = n0) (h0 : BytesIn W p0 n0 xs0) (hb0 : ∀ x ∈ xs0, 0 ≤ x ∧ x < 256) (hx1 : xs1.length = n1) (h1 : BytesIn W p1 n1 xs1) (hb1 : ∀ x ∈ xs1, 0 ≤ x ∧ x < 256) (hx3 : xs3.length = n3) (h3 : BytesIn W p3 n3 xs3) (hb3 : ∀ x ∈ xs3, 0 ≤ x ∧ x < 256) :
    BesB Tryz.prog (LawDone 4 8 W) (G (Frame.enter Tryz.prog 4 #[.slice p0 n0 q0, .slice p1 n1 q1, .int .i64 e, .slice p3 n3 q3] .normal) []) W := by
  have hpF := wrF_le xs0 xs1 n0 n1 n3 e
  have hpB := wrB_le xs0 xs1 n0 n1 n3 e
  have gR : Tryz.prog.globals.size ≤ W.heap.size := cells_le hg.gr.cells
  rw [enter_LW]
  simp only [bodyLW, Tryz.f4, Option.getD_some]
  walk_nrm
  have k0 : Below W.heap.size W W := .refl _ _
  refine BesB.seq fun KK hKK => ?_
  refine BesB.code tameAS rfl rfl (by kernel_rfl) (noFLW _) fun K hK θ1 w1 b1 => ?_
  have k1 := below_onr k0 θ1 b1
  have z1 : W.heap.size ≤ w1.heap.size := b1.size
  go_wp2_with (fail)
  intro w2 e2 t2
  have k2 : Below W.heap.size W w2 := e2.below (by first | exact t2 | exact t2.trans k0.tape) k1
  have z2 := e2.size
  refine hKK _ _ ?_
  clear hKK KK
  rcases Nat.lt_or_ge 1048576 n0 with hn0 | hn0
  · refine BesB.ctlG (fun _ => stepG_seq) ?_
    refine BesB.ctlG (fun _ => stepG_seq) ?_
    refine BesB.ctlG (fun _ => stepG_region) ?_
    refine BesB.value (v := .slice p0 n0 q0) rfl rfl (by decide) (fun _ => by simp [go_sem, execOp, Act.eval]) (fun _ => by simp [go_sem, execOp, Act.eval]) ?_
    walk_nrm
    refine BesB.value (v := .int .i64 (n0 : Int)) rfl rfl (by decide) (fun _ => by simp [go_sem, execOp, Act.eval]) (fun _ => by simp [go_sem, execOp, Act.eval]) ?_
    walk_nrm
    refine BesB.value (v := .bool true) rfl rfl (by decide) (fun _ => by simp [go_sem, execOp, Act.eval]; omega) (fun _ => by simp [go_sem, execOp, Act.eval]) ?_
    walk_nrm
    refine BesB.ctlG (fun _ => stepG_region_end) ?_
    refine BesB.cond true rfl ?_
    simp only [reduceIte]
    refine BesB.ctlG (fun _ => stepG_seq) ?_
    refine BesB.ctlG (fun _ => stepG_region) ?_
    refine BesB.value (v := .bool true) rfl rfl (by decide) (fun _ => by simp [go_sem, execOp, Act.eval]) (fun _ => by simp [go_sem, execOp, Act.eval]) ?_
    walk_nrm
    refine BesB.ctlG (fun _ => stepG_region_end) ?_
    refine BesB.ctlG (fun _ => stepG_ret') ?_
    exact fun w1 _ hl => .now ⟨_, rfl, rfl, rfl, rfl, rfl, rfl, below_lay (below_on k2 hl)⟩
  have c0 : ¬ (1048576 : Int) < (n0 : Int) := by omega
  refine BesB.seq fun KK hKK => ?_
  refine BesB.code tameAS rfl rfl (by kernel_rfl) (noFLW _) fun K hK θ3 w3 b3 => ?_
  have k3 := below_onr k2 θ3 b3
  have z3 : w2.heap.size ≤ w3.heap.size := b3.size
  go_wp2_with (fail)
  intro w4 e4 t4
  have k4 : Below W.heap.size W w4 := e4.below (by first | exact t4 | exact t4.trans k2.tape) k3
  have z4 := e4.size
  refine hKK _ _ ?_
  clear hKK KK
  rcases Nat.lt_or_ge 1048576 n1 with hn1 | hn1
  · refine BesB.ctlG (fun _ => stepG_seq) ?_
    refine BesB.ctlG (fun _ => stepG_seq) ?_
    refine BesB.ctlG (fun _ => stepG_region) ?_
    refine BesB.value (v := .slice p1 n1 q1) rfl rfl (by decide) (fun _ => by simp [go_sem, execOp, Act.eval]) (fun _ => by simp [go_sem, execOp, Act.eval]) ?_
    walk_nrm
    refine BesB.value (v := .int .i64 (n1 : Int)) rfl rfl (by decide) (fun _ => by simp [go_sem, execOp, Act.eval]) (fun _ => by simp [go_sem, execOp, Act.eval]) ?_
    walk_nrm
    refine BesB.value (v := .bool true) rfl rfl (by decide) (fun _ => by simp [go_sem, execOp, Act.eval]; omega) (fun _ => by simp [go_sem, execOp, Act.eval]) ?_
    walk_nrm
    refine BesB.ctlG (fun _ => stepG_region_end) ?_
    refine BesB.cond true rfl ?_
    simp only [reduceIte]
    refine BesB.ctlG (fun _ => stepG_seq) ?_
    refine BesB.ctlG (fun _ => stepG_region) ?_
    refine BesB.value (v := .bool true) rfl rfl (by decide) (fun _ => by simp [go_sem, execOp, Act.eval]) (fun _ => by simp [go_sem, execOp, Act.eval]) ?_
    walk_nrm
    refine BesB.ctlG (fun _ => stepG_region_end) ?_
    refine BesB.ctlG (fun _ => stepG_ret') ?_
    exact fun w1 _ hl => .now ⟨_, rfl, rfl, rfl, rfl, rfl, rfl, below_lay (below_on k4 hl)⟩
  have c1 : ¬ (1048576 : Int) < (n1 : Int) := by omega
  refine BesB.seq fun KK hKK => ?_
  refine BesB.code tameAS rfl rfl (by kernel_rfl) (noFLW _) fun K hK θ5 w5 b5 => ?_
  have k5 := below_onr k4 θ5 b5
  have z5 : w4.heap.size ≤ w5.heap.size := b5.size
  go_wp2_with (fail)
  intro w6 e6 t6
  have k6 : Below W.heap.size W w6 := e6.below (by first | exact t6 | exact t6.trans k4.tape) k5
  have z6 := e6.size
  refine hKK _ _ ?_
  clear hKK KK
  rcases Nat.lt_or_ge 1048576 n3 with hn3 | hn3
  · refine BesB.ctlG (fun _ => stepG_seq) ?_
    refine BesB.ctlG (fun _ => stepG_seq) ?_
    refine BesB.ctlG (fun _ => stepG_region) ?_
    refine BesB.value (v := .slice p3 n3 q3) rfl rfl (by decide) (fun _ => by simp [go_sem, execOp, Act.eval]) (fun _ => by simp [go_sem, execOp, Act.eval]) ?_
    walk_nrm
    refine BesB.value (v := .int .i64 (n3 : Int)) rfl rfl (by decide) (fun _ => by simp [go_sem, execOp, Act.eval]) (fun _ => by simp [go_sem, execOp, Act.eval]) ?_
    walk_nrm
    refine BesB.value (v := .bool true) rfl rfl (by decide) (fun _ => by simp [go_sem, execOp, Act.eval]; omega) (fun _ => by simp [go_sem, execOp, Act.eval]) ?_
    walk_nrm
    refine BesB.ctlG (fun _ => stepG_region_end) ?_
    refine BesB.cond true rfl ?_
    simp only [reduceIte]
    refine BesB.ctlG (fun _ => stepG_seq) ?_
    refine BesB.ctlG (fun _ => stepG_region) ?_
    refine BesB.value (v := .bool true) rfl rfl (by decide) (fun _ => by simp [go_sem, execOp, Act.eval]) (fun _ => by simp [go_sem, execOp, Act.eval]) ?_
    walk_nrm
    refine BesB.ctlG (fun _ => stepG_region_end) ?_
    refine BesB.ctlG (fun _ => stepG_ret') ?_
    exact fun w1 _ hl => .now ⟨_, rfl, rfl, rfl, rfl, rfl, rfl, below_lay (below_on k6 hl)⟩
  have c3 : ¬ (1048576 : Int) < (n3 : Int) := by omega
  refine BesB.seq fun KK hKK => ?_
  refine BesB.code tameAS rfl rfl (by kernel_rfl) (noFLW _) fun K hK θ7 w7 b7 => ?_
  have k7 := below_onr k6 θ7 b7
  have z7 : w6.heap.size ≤ w7.heap.size := b7.size
  go_wp2_with (fail)
  intro w8 e8 t8
  have k8 : Below W.heap.size W w8 := e8.below (by first | exact t8 | exact t8.trans k6.tape) k7
  have z8 := e8.size
  refine hKK _ _ ?_
  clear hKK KK
  refine BesB.seq fun KK hKK => ?_
  refine BesB.code tameAS rfl rfl (by kernel_rfl) (noFLW _) fun K hK θ9 w9 b9 => ?_
  have k9 := below_onr k8 θ9 b9
  have z9 : w8.heap.size ≤ w9.heap.size := b9.size
  go_wp2_with (fail)
  refine (toByteS_own p0 n0 q0 xs0 _ hn0 hx0 (in_below (in_ret h0 θ9) k9)).mono ?_
  rintro e w10 ⟨pr1, cr1, rfl, r1, b10⟩
  have k10 : Below (World.ret W θ9).heap.size (World.ret W θ9) w10 := below_on k9 b10
  have z10 := b10.size
  go_wp2_with (fail)
  refine (toByteS_own p1 n1 q1 xs1 _ hn1 hx1 (in_below (in_ret h1 θ9) k10)).mono ?_
  rintro e w11 ⟨pr2, cr2, rfl, r2, b11⟩
  have k11 : Below (World.ret W θ9).heap.size (World.ret W θ9) w11 := below_on k10 b11
  have z11 := b11.size
  replace r1 := r1.on b11
  go_wp2_with (fail)
  refine (toByteS_own p3 n3 q3 xs3 _ hn3 hx3 (in_below (in_ret h3 θ9) k11)).mono ?_
  rintro e w12 ⟨pr3, cr3, rfl, r3, b12⟩
  have k12 : Below (World.ret W θ9).heap.size (World.ret W θ9) w12 := below_on k11 b12
  have z12 := b12.size
  replace r1 := r1.on b12
  replace r2 := r2.on b12
  go_wp2_with (fail)
  refine (specWrite_k pr1 pr2 pr3 n0 cr1 n1 cr2 n3 cr3 xs0 xs1 xs3 e _ (by omega) r1.len r2.len r3.len r1.bytes r2.bytes r3.bytes hb0 hb1).mono ?_
  rintro z w13 ⟨v, rfl, ⟨pr4a, cr4a, pr4b, cr4b, midr4, rfl, r4a, r4b, hmr4, hur4⟩, b13⟩
  have k13 : Below (World.ret W θ9).heap.size (World.ret W θ9) w13 := below_on k12 b13
  have z13 := b13.size
  replace r1 := r1.on b13
  replace r2 := r2.on b13
  replace r3 := r3.on b13
  obtain ⟨w14, hw14⟩ : ∃ X, X = w13.alloc (.cells #[.int .i64 (wrE xs0 xs1 n0 n1 n3 e), .slice pr4a (wrF xs0 xs1 n0 n1 n3 e) cr4a, .slice pr4b (wrB xs0 xs1 n0 n1 n3 e) cr4b] 27) := ⟨_, rfl⟩
  have b14 : Below w13.heap.size w13 w14 := by rw [hw14]; exact made_below _ _ (Below.refl _ _)
  have cb9 : Cells w14 w13.heap.size #[.int .i64 (wrE xs0 xs1 n0 n1 n3 e), .slice pr4a (wrF xs0 xs1 n0 n1 n3 e) cr4a, .slice pr4b (wrB xs0 xs1 n0 n1 n3 e) cr4b] := by rw [hw14]; exact Cells.made _ _ _
  have zs14 : w14.heap.size = w13.heap.size + 1 := by rw [hw14]; simp
  replace hw14 : Hid (w13.alloc (.cells #[.int .i64 (wrE xs0 xs1 n0 n1 n3 e), .slice pr4a (wrF xs0 xs1 n0 n1 n3 e) cr4a, .slice pr4b (wrB xs0 xs1 n0 n1 n3 e) cr4b] 27) = w14) := hw14.symm
  have k14 : Below (World.ret W θ9).heap.size (World.ret W θ9) w14 := below_on k13 b14
  have z14 := b14.size
  replace r1 := r1.on b14
  replace r2 := r2.on b14
  replace r3 := r3.on b14
  replace r4a := r4a.on b14
  replace r4b := r4b.on b14
  go_wp2_with (rw [hw14.out])
  clear hw14
  obtain ⟨B9, hB9⟩ : ∃ B, B = w13.heap.size := ⟨_, rfl⟩
  rw [← hB9] at cb9 ⊢
  have lB9 : w13.heap.size ≤ B9 := by omega
  have uB9 : B9 < w14.heap.size := by omega
  clear hB9 zs14
  intro w15 e15 t15
  have k15 : Below W.heap.size W w15 := e15.below (by first | exact t15 | exact t15.trans k8.tape) k14
  have z15 := e15.size
  replace r1 := r1.like e15
  replace r2 := r2.like e15
  replace r3 := r3.like e15
  replace r4a := r4a.like e15
  replace r4b := r4b.like e15
  replace cb9 := cb9.like e15
  refine hKK _ _ ?_
  clear hKK KK
  refine BesB.seq fun KK hKK => ?_
  refine BesB.code tameAS rfl rfl (by kernel_rfl) (noFLW _) fun K hK θ16 w16 b16 => ?_
  have k16 := below_onr k15 θ16 b16
  have z16 : w15.heap.size ≤ w16.heap.size := b16.size
  replace r1 := (r1.ret θ16).on b16
  replace r2 := (r2.ret θ16).on b16
  replace r3 := (r3.ret θ16).on b16
  replace r4a := (r4a.ret θ16).on b16
  replace r4b := (r4b.ret θ16).on b16
  replace cb9 := (cb9.ret θ16).on b16
  go_wp2_with (fail)
  refine (toByteS_own p0 n0 q0 xs0 _ hn0 hx0 (in_below (in_ret h0 θ16) k16)).mono ?_
  rintro e w17 ⟨pr5, cr5, rfl, r5, b17⟩
  have k17 : Below (World.ret W θ16).heap.size (World.ret W θ16) w17 := below_on k16 b17
  have z17 := b17.size
  replace r1 := r1.on b17
  replace r2 := r2.on b17
  replace r3 := r3.on b17
  replace r4a := r4a.on b17
  replace r4b := r4b.on b17
  replace cb9 := cb9.on b17
  go_wp2_with (fail)
  intro w18 e18 t18
  have k18 : Below W.heap.size W w18 := e18.below (by first | exact t18 | exact t18.trans k15.tape) k17
  have z18 := e18.size
  replace r1 := r1.like e18
  replace r2 := r2.like e18
  replace r3 := r3.like e18
  replace r4a := r4a.like e18
  replace r4b := r4b.like e18
  replace r5 := r5.like e18
  replace cb9 := cb9.like e18
  refine hKK _ _ ?_
  clear hKK KK
  refine BesB.seq fun KK hKK => ?_
  refine BesB.code tameAS rfl rfl (by kernel_rfl) (noFLW _) fun K hK θ19 w19 b19 => ?_
  have k19 := below_onr k18 θ19 b19
  have z19 : w18.heap.size ≤ w19.heap.size := b19.size
  replace r1 := (r1.ret θ19).on b19
  replace r2 := (r2.ret θ19).on b19
  replace r3 := (r3.ret θ19).on b19
  replace r4a := (r4a.ret θ19).on b19
  replace r4b := (r4b.ret θ19).on b19
  replace r5 := (r5.ret θ19).on b19
  replace cb9 := (cb9.ret θ19).on b19
  go_wp2_with (fail)
  refine (toByteS_own p1 n1 q1 xs1 _ hn1 hx1 (in_below (in_ret h1 θ19) k19)).mono ?_
  rintro e w20 ⟨pr6, cr6, rfl, r6, b20⟩
  have k20 : Below (World.ret W θ19).heap.size (World.ret W θ19) w20 := below_on k19 b20
  have z20 := b20.size
  replace r1 := r1.on b20
  replace r2 := r2.on b20
  replace r3 := r3.on b20
  replace r4a := r4a.on b20
  replace r4b := r4b.on b20
  replace r5 := r5.on b20
  replace cb9 := cb9.on b20
  go_wp2_with (fail)
  intro w21 e21 t21
  have k21 : Below W.heap.size W w21 := e21.below (by first | exact t21 | exact t21.trans k18.tape) k20
  have z21 := e21.size
  replace r1 := r1.like e21
  replace r2 := r2.like e21
  replace r3 := r3.like e21
  replace r4a := r4a.like e21
  replace r4b := r4b.like e21
  replace r5 := r5.like e21
  replace r6 := r6.like e21
  replace cb9 := cb9.like e21
  refine hKK _ _ ?_
  clear hKK KK
  refine BesB.seq fun KK hKK => ?_
  refine BesB.code tameAS rfl rfl (by kernel_rfl) (noFLW _) fun K hK θ22 w22 b22 => ?_
  have k22 := below_onr k21 θ22 b22
  have z22 : w21.heap.size ≤ w22.heap.size := b22.size
  replace r1 := (r1.ret θ22).on b22
  replace r2 := (r2.ret θ22).on b22
  replace r3 := (r3.ret θ22).on b22
  replace r4a := (r4a.ret θ22).on b22
  replace r4b := (r4b.ret θ22).on b22
  replace r5 := (r5.ret θ22).on b22
  replace r6 := (r6.ret θ22).on b22
  replace cb9 := (cb9.ret θ22).on b22
  go_wp2_with (fail)
  refine (toByteS_own p3 n3 q3 xs3 _ hn3 hx3 (in_below (in_ret h3 θ22) k22)).mono ?_
  rintro e w23 ⟨pr7, cr7, rfl, r7, b23⟩
  have k23 : Below (World.ret W θ22).heap.size (World.ret W θ22) w23 := below_on k22 b23
  have z23 := b23.size
  replace r1 := r1.on b23
  replace r2 := r2.on b23
  replace r3 := r3.on b23
  replace r4a := r4a.on b23
  replace r4b := r4b.on b23
  replace r5 := r5.on b23
  replace r6 := r6.on b23
  replace cb9 := cb9.on b23
  go_wp2_with (fail)
  intro w24 e24 t24
  have k24 : Below W.heap.size W w24 := e24.below (by first | exact t24 | exact t24.trans k21.tape) k23
  have z24 := e24.size
  replace r1 := r1.like e24
  replace r2 := r2.like e24
  replace r3 := r3.like e24
  replace r4a := r4a.like e24
  replace r4b := r4b.like e24
  replace r5 := r5.like e24
  replace r6 := r6.like e24
  replace r7 := r7.like e24
  replace cb9 := cb9.like e24
  refine hKK _ _ ?_
  clear hKK KK
  refine BesB.seq fun KK hKK => ?_
  refine BesB.ctlG (fun _ => stepG_region) ?_
  refine BesB.value (v := .slice pr5 n0 cr5) rfl rfl (by decide) (fun _ => by simp [go_sem, execOp, Act.eval]) (fun _ => by simp [go_sem, execOp, Act.eval]) ?_
  walk_nrm
  refine BesB.value (v := .slice pr6 n1 cr6) rfl rfl (by decide) (fun _ => by simp [go_sem, execOp, Act.eval]) (fun _ => by simp [go_sem, execOp, Act.eval]) ?_
  walk_nrm
  refine BesB.value (v := .int .i64 e) rfl rfl (by decide) (fun _ => by simp [go_sem, execOp, Act.eval]) (fun _ => by simp [go_sem, execOp, Act.eval]) ?_
  walk_nrm
  refine BesB.value (v := .slice pr7 n3 cr7) rfl rfl (by decide) (fun _ => by simp [go_sem, execOp, Act.eval]) (fun _ => by simp [go_sem, execOp, Act.eval]) ?_
  walk_nrm
  refine BesB.call rfl rfl (by decide) rfl Tryz.func8 (by kernel_rfl) (by kernel_rfl) ?_
  walk_nrm
  refine (implWrite_k pr5 pr6 pr7 n0 cr5 n1 cr6 n3 cr7 xs0 xs1 xs3 e C ce _ (hg.on k24) (r5.tee hb0) (r6.tee hb1) (r7.tee hb3) he hn1) _ _ _ fun v w25 hv => ?_
  obtain ⟨l, rfl, ⟨pr8a, cr8a, pr8b, cr8b, midr8, rfl, r8a, r8b, hmr8, hur8⟩, b25⟩ := hv
  have k25 : Below W.heap.size W w25 := below_on k24 b25
  have z25 := b25.size
  replace r1 := r1.on b25
  replace r2 := r2.on b25
  replace r3 := r3.on b25
  replace r4a := r4a.on b25
  replace r4b := r4b.on b25
  replace r5 := r5.on b25
  replace r6 := r6.on b25
  replace r7 := r7.on b25
  replace cb9 := cb9.on b25
  rw [Frame.finish_at]
  walk_nrm
  refine BesB.value (v := .tuple #[.agg #[.int .i64 (wrE xs0 xs1 n0 n1 n3 e), .slice pr8a (wrF xs0 xs1 n0 n1 n3 e) cr8a, .slice pr8b (wrB xs0 xs1 n0 n1 n3 e) cr8b], .bool (wrK xs0 xs1 n0 n1 n3 e)]) rfl rfl (by decide) (fun _ => by simp [go_sem, execOp, Act.eval]) (fun _ => by simp [go_sem, execOp, Act.eval]) ?_
  walk_nrm
  refine BesB.value (v := .agg #[.int .i64 (wrE xs0 xs1 n0 n1 n3 e), .slice pr8a (wrF xs0 xs1 n0 n1 n3 e) cr8a, .slice pr8b (wrB xs0 xs1 n0 n1 n3 e) cr8b]) rfl rfl (by decide) (fun _ => by simp [go_sem, execOp, Act.eval]) (fun _ => by simp [go_sem, execOp, Act.eval]) ?_
  walk_nrm
  refine BesB.value (v := .bool (wrK xs0 xs1 n0 n1 n3 e)) rfl rfl (by decide) (fun _ => by simp [go_sem, execOp, Act.eval]) (fun _ => by simp [go_sem, execOp, Act.eval]) ?_
  walk_nrm
  refine BesB.boxL (e := (wrE xs0 xs1 n0 n1 n3 e)) (p := pr8a) (n := (wrF xs0 xs1 n0 n1 n3 e)) (c := cr8a) (q := pr8b) (m := (wrB xs0 xs1 n0 n1 n3 e)) (d := cr8b) rfl rfl rfl rfl (fun _ => rfl) rfl (by decide) (fun _ => rfl) (fun _ => rfl) (Nat.le_trans gR k25.size) fun w26 B14 b26 lB14 uB14 cb14 => ?_
  walk_nrm
  have k26 : Below W.heap.size W w26 := below_on k25 b26
  have z26 := b26.size
  replace r1 := r1.on b26
  replace r2 := r2.on b26
  replace r3 := r3.on b26
  replace r4a := r4a.on b26
  replace r4b := r4b.on b26
  replace r5 := r5.on b26
  replace r6 := r6.on b26
  replace r7 := r7.on b26
  replace r8a := r8a.on b26
  replace r8b := r8b.on b26
  replace cb9 := cb9.on b26
  refine BesB.value (v := .bool (wrK xs0 xs1 n0 n1 n3 e)) rfl rfl (by decide) (fun _ => by simp [go_sem, execOp, Act.eval]) (fun _ => by simp [go_sem, execOp, Act.eval]) ?_
  walk_nrm
  refine BesB.ctlG (fun _ => stepG_region_end) ?_
  refine hKK _ _ ?_
  clear hKK KK
  refine BesB.seq fun KK hKK => ?_
  refine BesB.code tameAS rfl rfl (by kernel_rfl) (noFLW _) fun K hK θ27 w27 b27 => ?_
  have k27 := below_onr k26 θ27 b27
  have z27 : w26.heap.size ≤ w27.heap.size := b27.size
  replace r1 := (r1.ret θ27).on b27
  replace r2 := (r2.ret θ27).on b27
  replace r3 := (r3.ret θ27).on b27
  replace r4a := (r4a.ret θ27).on b27
  replace r4b := (r4b.ret θ27).on b27
  replace r5 := (r5.ret θ27).on b27
  replace r6 := (r6.ret θ27).on b27
  replace r7 := (r7.ret θ27).on b27
  replace r8a := (r8a.ret θ27).on b27
  replace r8b := (r8b.ret θ27).on b27
  replace cb9 := (cb9.ret θ27).on b27
  replace cb14 := (cb14.ret θ27).on b27
  have l14_0 : w27.cell? ⟨B14, 0, none⟩ = some (.int .i64 (wrE xs0 xs1 n0 n1 n3 e)) := (cb14.2 0).1
  have l14_1 : w27.cell? ⟨B14, 1, none⟩ = some (.slice pr8a (wrF xs0 xs1 n0 n1 n3 e) cr8a) := (cb14.2 1).1
  have l14_2 : w27.cell? ⟨B14, 2, none⟩ = some (.slice pr8b (wrB xs0 xs1 n0 n1 n3 e) cr8b) := (cb14.2 2).1
  have l9_0 : w27.cell? ⟨B9, 0, none⟩ = some (.int .i64 (wrE xs0 xs1 n0 n1 n3 e)) := (cb9.2 0).1
  have l9_1 : w27.cell? ⟨B9, 1, none⟩ = some (.slice pr4a (wrF xs0 xs1 n0 n1 n3 e) cr4a) := (cb9.2 1).1
  have l9_2 : w27.cell? ⟨B9, 2, none⟩ = some (.slice pr4b (wrB xs0 xs1 n0 n1 n3 e) cr4b) := (cb9.2 2).1
  go_wp2_with (fail)
  refine (eqLetter_any (wrE xs0 xs1 n0 n1 n3 e) (wrE xs0 xs1 n0 n1 n3 e) pr8a pr8b pr4a pr4b (wrF xs0 xs1 n0 n1 n3 e) cr8a (wrB xs0 xs1 n0 n1 n3 e) cr8b (wrF xs0 xs1 n0 n1 n3 e) cr4a (wrB xs0 xs1 n0 n1 n3 e) cr4b (wrFl xs0 xs1 xs3 n0 n1 n3 e) (wrBl xs0 xs1 xs3 n0 n1 n3 e) (wrFl xs0 xs1 xs3 n0 n1 n3 e) (wrBl xs0 xs1 xs3 n0 n1 n3 e) _ (by omega) (by omega) r8a.len r8b.len r4a.len r4b.len r8a.bytes r8b.bytes r4a.bytes r4b.bytes).mono ?_
  rintro e w28 ⟨rfl, b28⟩
  have k28 : Below (World.ret W θ27).heap.size (World.ret W θ27) w28 := below_on k27 b28
  have z28 := b28.size
  replace r1 := r1.on b28
  replace r2 := r2.on b28
  replace r3 := r3.on b28
  replace r4a := r4a.on b28
  replace r4b := r4b.on b28
  replace r5 := r5.on b28
  replace r6 := r6.on b28
  replace r7 := r7.on b28
  replace r8a := r8a.on b28
  replace r8b := r8b.on b28
  replace cb9 := cb9.on b28
  replace cb14 := cb14.on b28
  clear l14_0 l14_1 l14_2 l9_0 l9_1 l9_2
  go_wp2_with (fail)
  intro w29 e29 t29
  have k29 : Below W.heap.size W w29 := e29.below (by first | exact t29 | exact t29.trans k26.tape | exact t29.trans k25.tape) k28
  have z29 := e29.size
  replace r1 := r1.like e29
  replace r2 := r2.like e29
  replace r3 := r3.like e29
  replace r4a := r4a.like e29
  replace r4b := r4b.like e29
  replace r5 := r5.like e29
  replace r6 := r6.like e29
  replace r7 := r7.like e29
  replace r8a := r8a.like e29
  replace r8b := r8b.like e29
  replace cb9 := cb9.like e29
  replace cb14 := cb14.like e29
  refine hKK _ _ ?_
  clear hKK KK
  refine BesB.seq fun KK hKK => ?_
  refine BesB.code tameAS rfl rfl (by kernel_rfl) (noFLW _) fun K hK θ30 w30 b30 => ?_
  have k30 := below_onr k29 θ30 b30
  have z30 : w29.heap.size ≤ w30.heap.size := b30.size
  replace r1 := (r1.ret θ30).on b30
  replace r2 := (r2.ret θ30).on b30
  replace r3 := (r3.ret θ30).on b30
  replace r4a := (r4a.ret θ30).on b30
  replace r4b := (r4b.ret θ30).on b30
  replace r5 := (r5.ret θ30).on b30
  replace r6 := (r6.ret θ30).on b30
  replace r7 := (r7.ret θ30).on b30
  replace r8a := (r8a.ret θ30).on b30
  replace r8b := (r8b.ret θ30).on b30
  replace cb9 := (cb9.ret θ30).on b30
  replace cb14 := (cb14.ret θ30).on b30
  go_wp2_with (fail)
  refine (toByteS_own p0 n0 q0 xs0 _ hn0 hx0 (in_below (in_ret h0 θ30) k30)).mono ?_
  rintro e w31 ⟨pr9, cr9, rfl, r9, b31⟩
  have k31 : Below (World.ret W θ30).heap.size (World.ret W θ30) w31 := below_on k30 b31
  have z31 := b31.size
  replace r1 := r1.on b31
  replace r2 := r2.on b31
  replace r3 := r3.on b31
  replace r4a := r4a.on b31
  replace r4b := r4b.on b31
  replace r5 := r5.on b31
  replace r6 := r6.on b31
  replace r7 := r7.on b31
  replace r8a := r8a.on b31
  replace r8b := r8b.on b31
  replace cb9 := cb9.on b31
  replace cb14 := cb14.on b31
  go_wp2_with (fail)
  refine (eqByteS_any pr5 pr9 n0 n0 cr5 cr9 xs0 xs0 _ (by omega) r5.len r9.len r5.bytes r9.bytes).mono ?_
  rintro e w32 ⟨rfl, b32⟩
  have k32 : Below (World.ret W θ30).heap.size (World.ret W θ30) w32 := below_on k31 b32
  have z32 := b32.size
  replace r1 := r1.on b32
  replace r2 := r2.on b32
  replace r3 := r3.on b32
  replace r4a := r4a.on b32
  replace r4b := r4b.on b32
  replace r5 := r5.on b32
  replace r6 := r6.on b32
  replace r7 := r7.on b32
  replace r8a := r8a.on b32
  replace r8b := r8b.on b32
  replace r9 := r9.on b32
  replace cb9 := cb9.on b32
  replace cb14 := cb14.on b32
  go_wp2_with (fail)
  intro w33 e33 t33
  have k33 : Below W.heap.size W w33 := e33.below (by first | exact t33 | exact t33.trans k29.tape | exact t33.trans k26.tape | exact t33.trans k25.tape) k32
  have z33 := e33.size
  replace r1 := r1.like e33
  replace r2 := r2.like e33
  replace r3 := r3.like e33
  replace r4a := r4a.like e33
  replace r4b := r4b.like e33
  replace r5 := r5.like e33
  replace r6 := r6.like e33
  replace r7 := r7.like e33
  replace r8a := r8a.like e33
  replace r8b := r8b.like e33
  replace r9 := r9.like e33
  replace cb9 := cb9.like e33
  replace cb14 := cb14.like e33
  refine hKK _ _ ?_
  clear hKK KK
  refine BesB.seq fun KK hKK => ?_
  refine BesB.code tameAS rfl rfl (by kernel_rfl) (noFLW _) fun K hK θ34 w34 b34 => ?_
  have k34 := below_onr k33 θ34 b34
  have z34 : w33.heap.size ≤ w34.heap.size := b34.size
  replace r1 := (r1.ret θ34).on b34
  replace r2 := (r2.ret θ34).on b34
  replace r3 := (r3.ret θ34).on b34
  replace r4a := (r4a.ret θ34).on b34
  replace r4b := (r4b.ret θ34).on b34
  replace r5 := (r5.ret θ34).on b34
  replace r6 := (r6.ret θ34).on b34
  replace r7 := (r7.ret θ34).on b34
  replace r8a := (r8a.ret θ34).on b34
  replace r8b := (r8b.ret θ34).on b34
  replace r9 := (r9.ret θ34).on b34
  replace cb9 := (cb9.ret θ34).on b34
  replace cb14 := (cb14.ret θ34).on b34
  go_wp2_with (fail)
  refine (toByteS_own p1 n1 q1 xs1 _ hn1 hx1 (in_below (in_ret h1 θ34) k34)).mono ?_
  rintro e w35 ⟨pr10, cr10, rfl, r10, b35⟩
  have k35 : Below (World.ret W θ34).heap.size (World.ret W θ34) w35 := below_on k34 b35
  have z35 := b35.size
  replace r1 := r1.on b35
  replace r2 := r2.on b35
  replace r3 := r3.on b35
  replace r4a := r4a.on b35
  replace r4b := r4b.on b35
  replace r5 := r5.on b35
  replace r6 := r6.on b35
  replace r7 := r7.on b35
  replace r8a := r8a.on b35
  replace r8b := r8b.on b35
  replace r9 := r9.on b35
  replace cb9 := cb9.on b35
  replace cb14 := cb14.on b35
  go_wp2_with (fail)
  refine (eqByteS_any pr6 pr10 n1 n1 cr6 cr10 xs1 xs1 _ (by omega) r6.len r10.len r6.bytes r10.bytes).mono ?_
  rintro e w36 ⟨rfl, b36⟩
  have k36 : Below (World.ret W θ34).heap.size (World.ret W θ34) w36 := below_on k35 b36
  have z36 := b36.size
  replace r1 := r1.on b36
  replace r2 := r2.on b36
  replace r3 := r3.on b36
  replace r4a := r4a.on b36
  replace r4b := r4b.on b36
  replace r5 := r5.on b36
  replace r6 := r6.on b36
  replace r7 := r7.on b36
  replace r8a := r8a.on b36
  replace r8b := r8b.on b36
  replace r9 := r9.on b36
  replace r10 := r10.on b36
  replace cb9 := cb9.on b36
  replace cb14 := cb14.on b36
  go_wp2_with (fail)
  intro w37 e37 t37
  have k37 : Below W.heap.size W w37 := e37.below (by first | exact t37 | exact t37.trans k33.tape | exact t37.trans k26.tape | exact t37.trans k25.tape) k36
  have z37 := e37.size
  replace r1 := r1.like e37
  replace r2 := r2.like e37
  replace r3 := r3.like e37
  replace r4a := r4a.like e37
  replace r4b := r4b.like e37
  replace r5 := r5.like e37
  replace r6 := r6.like e37
  replace r7 := r7.like e37
  replace r8a := r8a.like e37
  replace r8b := r8b.like e37
  replace r9 := r9.like e37
  replace r10 := r10.like e37
  replace cb9 := cb9.like e37
  replace cb14 := cb14.like e37
  refine hKK _ _ ?_
  clear hKK KK
  refine BesB.seq fun KK hKK => ?_
  refine BesB.code tameAS rfl rfl (by kernel_rfl) (noFLW _) fun K hK θ38 w38 b38 => ?_
  have k38 := below_onr k37 θ38 b38
  have z38 : w37.heap.size ≤ w38.heap.size := b38.size
  replace r1 := (r1.ret θ38).on b38
  replace r2 := (r2.ret θ38).on b38
  replace r3 := (r3.ret θ38).on b38
  replace r4a := (r4a.ret θ38).on b38
  replace r4b := (r4b.ret θ38).on b38
  replace r5 := (r5.ret θ38).on b38
  replace r6 := (r6.ret θ38).on b38
  replace r7 := (r7.ret θ38).on b38
  replace r8a := (r8a.ret θ38).on b38
  replace r8b := (r8b.ret θ38).on b38
  replace r9 := (r9.ret θ38).on b38
  replace r10 := (r10.ret θ38).on b38
  replace cb9 := (cb9.ret θ38).on b38
  replace cb14 := (cb14.ret θ38).on b38
  go_wp2_with (fail)
  refine (toByteS_own p3 n3 q3 xs3 _ hn3 hx3 (in_below (in_ret h3 θ38) k38)).mono ?_
  rintro e w39 ⟨pr11, cr11, rfl, r11, b39⟩
  have k39 : Below (World.ret W θ38).heap.size (World.ret W θ38) w39 := below_on k38 b39
  have z39 := b39.size
  replace r1 := r1.on b39
  replace r2 := r2.on b39
  replace r3 := r3.on b39
  replace r4a := r4a.on b39
  replace r4b := r4b.on b39
  replace r5 := r5.on b39
  replace r6 := r6.on b39
  replace r7 := r7.on b39
  replace r8a := r8a.on b39
  replace r8b := r8b.on b39
  replace r9 := r9.on b39
  replace r10 := r10.on b39
  replace cb9 := cb9.on b39
  replace cb14 := cb14.on b39
  go_wp2_with (fail)
  refine (eqByteS_any pr7 pr11 n3 n3 cr7 cr11 xs3 xs3 _ (by omega) r7.len r11.len r7.bytes r11.bytes).mono ?_
  rintro e w40 ⟨rfl, b40⟩
  have k40 : Below (World.ret W θ38).heap.size (World.ret W θ38) w40 := below_on k39 b40
  have z40 := b40.size
  replace r1 := r1.on b40
  replace r2 := r2.on b40
  replace r3 := r3.on b40
  replace r4a := r4a.on b40
  replace r4b := r4b.on b40
  replace r5 := r5.on b40
  replace r6 := r6.on b40
  replace r7 := r7.on b40
  replace r8a := r8a.on b40
  replace r8b := r8b.on b40
  replace r9 := r9.on b40
  replace r10 := r10.on b40
  replace r11 := r11.on b40
  replace cb9 := cb9.on b40
  replace cb14 := cb14.on b40
  go_wp2_with (fail)
  intro w41 e41 t41
  have k41 : Below W.heap.size W w41 := e41.below (by first | exact t41 | exact t41.trans k37.tape | exact t41.trans k26.tape | exact t41.trans k25.tape) k40
  have z41 := e41.size
  replace r1 := r1.like e41
  replace r2 := r2.like e41
  replace r3 := r3.like e41
  replace r4a := r4a.like e41
  replace r4b := r4b.like e41
  replace r5 := r5.like e41
  replace r6 := r6.like e41
  replace r7 := r7.like e41
  replace r8a := r8a.like e41
  replace r8b := r8b.like e41
  replace r9 := r9.like e41
  replace r10 := r10.like e41
  replace r11 := r11.like e41
  replace cb9 := cb9.like e41
  replace cb14 := cb14.like e41
  refine hKK _ _ ?_
  clear hKK KK
  refine BesB.seq fun KK hKK => ?_
  refine BesB.code tameAS rfl rfl (by kernel_rfl) (noFLW _) fun K hK θ42 w42 b42 => ?_
  have k42 := below_onr k41 θ42 b42
  have z42 : w41.heap.size ≤ w42.heap.size := b42.size
  replace r1 := (r1.ret θ42).on b42
  replace r2 := (r2.ret θ42).on b42
  replace r3 := (r3.ret θ42).on b42
  replace r4a := (r4a.ret θ42).on b42
  replace r4b := (r4b.ret θ42).on b42
  replace r5 := (r5.ret θ42).on b42
  replace r6 := (r6.ret θ42).on b42
  replace r7 := (r7.ret θ42).on b42
  replace r8a := (r8a.ret θ42).on b42
  replace r8b := (r8b.ret θ42).on b42
  replace r9 := (r9.ret θ42).on b42
  replace r10 := (r10.ret θ42).on b42
  replace r11 := (r11.ret θ42).on b42
  replace cb9 := (cb9.ret θ42).on b42
  replace cb14 := (cb14.ret θ42).on b42
  go_wp2_with (fail)
  intro w43 e43 t43
  have k43 : Below W.heap.size W w43 := e43.below (by first | exact t43 | exact t43.trans k41.tape | exact t43.trans k26.tape | exact t43.trans k25.tape) k42
  have z43 := e43.size
  replace r1 := r1.like e43
  replace r2 := r2.like e43
  replace r3 := r3.like e43
  replace r4a := r4a.like e43
  replace r4b := r4b.like e43
  replace r5 := r5.like e43
  replace r6 := r6.like e43
  replace r7 := r7.like e43
  replace r8a := r8a.like e43
  replace r8b := r8b.like e43
  replace r9 := r9.like e43
  replace r10 := r10.like e43
  replace r11 := r11.like e43
  replace cb9 := cb9.like e43
  replace cb14 := cb14.like e43
  refine hKK _ _ ?_
  clear hKK KK
  refine BesB.seq fun KK hKK => ?_
  refine BesB.code tameAS rfl rfl (by kernel_rfl) (noFLW _) fun K hK θ44 w44 b44 => ?_
  have k44 := below_onr k43 θ44 b44
  have z44 : w43.heap.size ≤ w44.heap.size := b44.size
  replace r1 := (r1.ret θ44).on b44
  replace r2 := (r2.ret θ44).on b44
  replace r3 := (r3.ret θ44).on b44
  replace r4a := (r4a.ret θ44).on b44
  replace r4b := (r4b.ret θ44).on b44
  replace r5 := (r5.ret θ44).on b44
  replace r6 := (r6.ret θ44).on b44
  replace r7 := (r7.ret θ44).on b44
  replace r8a := (r8a.ret θ44).on b44
  replace r8b := (r8b.ret θ44).on b44
  replace r9 := (r9.ret θ44).on b44
  replace r10 := (r10.ret θ44).on b44
  replace r11 := (r11.ret θ44).on b44
  replace cb9 := (cb9.ret θ44).on b44
  replace cb14 := (cb14.ret θ44).on b44
  go_wp2_with (fail)
  refine (markByteS_own _ _ pr5 n0 cr5 xs0 1 _ (by omega) (by omega) (by omega) r5).mono ?_
  rintro e w45 ⟨rfl, m45, g45⟩
  have k45 : Below (World.ret W θ44).heap.size (World.ret W θ44) w45 := below_mark k44 g45 r5 (by show W.heap.size ≤ _; omega)
  have z45 := g45.size
  replace r1 := r1.far g45 r5 (by omega)
  replace r2 := r2.far g45 r5 (by omega)
  replace r3 := r3.far g45 r5 (by omega)
  replace r4a := r4a.far g45 r5 (by omega)
  replace r4b := r4b.far g45 r5 (by omega)
  replace r6 := r6.far g45 r5 (by omega)
  replace r7 := r7.far g45 r5 (by omega)
  replace r8a := r8a.far g45 r5 (by omega)
  replace r8b := r8b.far g45 r5 (by omega)
  replace r9 := r9.far g45 r5 (by omega)
  replace r10 := r10.far g45 r5 (by omega)
  replace r11 := r11.far g45 r5 (by omega)
  replace cb9 := cb9.far g45 r5 (by omega)
  replace cb14 := cb14.far g45 r5 (by omega)
  clear r5 g45
  have r5 := m45
  clear m45
  go_wp2_with (fail)
  intro w46 e46 t46
  have k46 : Below W.heap.size W w46 := e46.below (by first | exact t46 | exact t46.trans k43.tape | exact t46.trans k26.tape | exact t46.trans k25.tape) k45
  have z46 := e46.size
  replace r1 := r1.like e46
  replace r2 := r2.like e46
  replace r3 := r3.like e46
  replace r4a := r4a.like e46
  replace r4b := r4b.like e46
  replace r5 := r5.like e46
  replace r6 := r6.like e46
  replace r7 := r7.like e46
  replace r8a := r8a.like e46
  replace r8b := r8b.like e46
  replace r9 := r9.like e46
  replace r10 := r10.like e46
  replace r11 := r11.like e46
  replace cb9 := cb9.like e46
  replace cb14 := cb14.like e46
  refine hKK _ _ ?_
  clear hKK KK
  refine BesB.seq fun KK hKK => ?_
  refine BesB.code tameAS rfl rfl (by kernel_rfl) (noFLW _) fun K hK θ47 w47 b47 => ?_
  have k47 := below_onr k46 θ47 b47
  have z47 : w46.heap.size ≤ w47.heap.size := b47.size
  replace r1 := (r1.ret θ47).on b47
  replace r2 := (r2.ret θ47).on b47
  replace r3 := (r3.ret θ47).on b47
  replace r4a := (r4a.ret θ47).on b47
  replace r4b := (r4b.ret θ47).on b47
  replace r5 := (r5.ret θ47).on b47
  replace r6 := (r6.ret θ47).on b47
  replace r7 := (r7.ret θ47).on b47
  replace r8a := (r8a.ret θ47).on b47
  replace r8b := (r8b.ret θ47).on b47
  replace r9 := (r9.ret θ47).on b47
  replace r10 := (r10.ret θ47).on b47
  replace r11 := (r11.ret θ47).on b47
  replace cb9 := (cb9.ret θ47).on b47
  replace cb14 := (cb14.ret θ47).on b47
  go_wp2_with (fail)
  refine (markByteS_own _ _ pr6 n1 cr6 xs1 (1 + (n0 : Int)) _ (by omega) (by omega) (by omega) r6).mono ?_
  rintro e w48 ⟨rfl, m48, g48⟩
  have k48 : Below (World.ret W θ47).heap.size (World.ret W θ47) w48 := below_mark k47 g48 r6 (by show W.heap.size ≤ _; omega)
  have z48 := g48.size
  replace r1 := r1.far g48 r6 (by omega)
  replace r2 := r2.far g48 r6 (by omega)
  replace r3 := r3.far g48 r6 (by omega)
  replace r4a := r4a.far g48 r6 (by omega)
  replace r4b := r4b.far g48 r6 (by omega)
  replace r5 := r5.far g48 r6 (by omega)
  replace r7 := r7.far g48 r6 (by omega)
  replace r8a := r8a.far g48 r6 (by omega)
  replace r8b := r8b.far g48 r6 (by omega)
  replace r9 := r9.far g48 r6 (by omega)
  replace r10 := r10.far g48 r6 (by omega)
  replace r11 := r11.far g48 r6 (by omega)
  replace cb9 := cb9.far g48 r6 (by omega)
  replace cb14 := cb14.far g48 r6 (by omega)
  clear r6 g48
  have r6 := m48
  clear m48
  go_wp2_with (fail)
  intro w49 e49 t49
  have k49 : Below W.heap.size W w49 := e49.below (by first | exact t49 | exact t49.trans k46.tape | exact t49.trans k26.tape | exact t49.trans k25.tape) k48
  have z49 := e49.size
  replace r1 := r1.like e49
  replace r2 := r2.like e49
  replace r3 := r3.like e49
  replace r4a := r4a.like e49
  replace r4b := r4b.like e49
  replace r5 := r5.like e49
  replace r6 := r6.like e49
  replace r7 := r7.like e49
  replace r8a := r8a.like e49
  replace r8b := r8b.like e49
  replace r9 := r9.like e49
  replace r10 := r10.like e49
  replace r11 := r11.like e49
  replace cb9 := cb9.like e49
  replace cb14 := cb14.like e49
  refine hKK _ _ ?_
  clear hKK KK
  refine BesB.seq fun KK hKK => ?_
  refine BesB.code tameAS rfl rfl (by kernel_rfl) (noFLW _) fun K hK θ50 w50 b50 => ?_
  have k50 := below_onr k49 θ50 b50
  have z50 : w49.heap.size ≤ w50.heap.size := b50.size
  replace r1 := (r1.ret θ50).on b50
  replace r2 := (r2.ret θ50).on b50
  replace r3 := (r3.ret θ50).on b50
  replace r4a := (r4a.ret θ50).on b50
  replace r4b := (r4b.ret θ50).on b50
  replace r5 := (r5.ret θ50).on b50
  replace r6 := (r6.ret θ50).on b50
  replace r7 := (r7.ret θ50).on b50
  replace r8a := (r8a.ret θ50).on b50
  replace r8b := (r8b.ret θ50).on b50
  replace r9 := (r9.ret θ50).on b50
  replace r10 := (r10.ret θ50).on b50
  replace r11 := (r11.ret θ50).on b50
  replace cb9 := (cb9.ret θ50).on b50
  replace cb14 := (cb14.ret θ50).on b50
  go_wp2_with (fail)
  refine (markByteS_own _ _ pr7 n3 cr7 xs3 ((1 + (n0 : Int)) + (n1 : Int)) _ (by omega) (by omega) (by omega) r7).mono ?_
  rintro e w51 ⟨rfl, m51, g51⟩
  have k51 : Below (World.ret W θ50).heap.size (World.ret W θ50) w51 := below_mark k50 g51 r7 (by show W.heap.size ≤ _; omega)
  have z51 := g51.size
  replace r1 := r1.far g51 r7 (by omega)
  replace r2 := r2.far g51 r7 (by omega)
  replace r3 := r3.far g51 r7 (by omega)
  replace r4a := r4a.far g51 r7 (by omega)
  replace r4b := r4b.far g51 r7 (by omega)
  replace r5 := r5.far g51 r7 (by omega)
  replace r6 := r6.far g51 r7 (by omega)
  replace r8a := r8a.far g51 r7 (by omega)
  replace r8b := r8b.far g51 r7 (by omega)
  replace r9 := r9.far g51 r7 (by omega)
  replace r10 := r10.far g51 r7 (by omega)
  replace r11 := r11.far g51 r7 (by omega)
  replace cb9 := cb9.far g51 r7 (by omega)
  replace cb14 := cb14.far g51 r7 (by omega)
  clear r7 g51
  have r7 := m51
  clear m51
  go_wp2_with (fail)
  intro w52 e52 t52
  have k52 : Below W.heap.size W w52 := e52.below (by first | exact t52 | exact t52.trans k49.tape | exact t52.trans k26.tape | exact t52.trans k25.tape) k51
  have z52 := e52.size
  replace r1 := r1.like e52
  replace r2 := r2.like e52
  replace r3 := r3.like e52
  replace r4a := r4a.like e52
  replace r4b := r4b.like e52
  replace r5 := r5.like e52
  replace r6 := r6.like e52
  replace r7 := r7.like e52
  replace r8a := r8a.like e52
  replace r8b := r8b.like e52
  replace r9 := r9.like e52
  replace r10 := r10.like e52
  replace r11 := r11.like e52
  replace cb9 := cb9.like e52
  replace cb14 := cb14.like e52
  refine hKK _ _ ?_
  clear hKK KK
  refine BesB.seq fun KK hKK => ?_
  refine BesB.code tameAS rfl rfl (by kernel_rfl) (noFLW _) fun K hK θ53 w53 b53 => ?_
  have k53 := below_onr k52 θ53 b53
  have z53 : w52.heap.size ≤ w53.heap.size := b53.size
  replace r1 := (r1.ret θ53).on b53
  replace r2 := (r2.ret θ53).on b53
  replace r3 := (r3.ret θ53).on b53
  replace r4a := (r4a.ret θ53).on b53
  replace r4b := (r4b.ret θ53).on b53
  replace r5 := (r5.ret θ53).on b53
  replace r6 := (r6.ret θ53).on b53
  replace r7 := (r7.ret θ53).on b53
  replace r8a := (r8a.ret θ53).on b53
  replace r8b := (r8b.ret θ53).on b53
  replace r9 := (r9.ret θ53).on b53
  replace r10 := (r10.ret θ53).on b53
  replace r11 := (r11.ret θ53).on b53
  replace cb9 := (cb9.ret θ53).on b53
  replace cb14 := (cb14.ret θ53).on b53
  have l14_0 : w53.cell? ⟨B14, 0, none⟩ = some (.int .i64 (wrE xs0 xs1 n0 n1 n3 e)) := (cb14.2 0).1
  have l14_1 : w53.cell? ⟨B14, 1, none⟩ = some (.slice pr8a (wrF xs0 xs1 n0 n1 n3 e) cr8a) := (cb14.2 1).1
  have l14_2 : w53.cell? ⟨B14, 2, none⟩ = some (.slice pr8b (wrB xs0 xs1 n0 n1 n3 e) cr8b) := (cb14.2 2).1
  have l9_0 : w53.cell? ⟨B9, 0, none⟩ = some (.int .i64 (wrE xs0 xs1 n0 n1 n3 e)) := (cb9.2 0).1
  have l9_1 : w53.cell? ⟨B9, 1, none⟩ = some (.slice pr4a (wrF xs0 xs1 n0 n1 n3 e) cr4a) := (cb9.2 1).1
  have l9_2 : w53.cell? ⟨B9, 2, none⟩ = some (.slice pr4b (wrB xs0 xs1 n0 n1 n3 e) cr4b) := (cb9.2 2).1
  go_wp2_with (fail)
  refine (eqLetter_any (wrE xs0 xs1 n0 n1 n3 e) (wrE xs0 xs1 n0 n1 n3 e) pr8a pr8b pr4a pr4b (wrF xs0 xs1 n0 n1 n3 e) cr8a (wrB xs0 xs1 n0 n1 n3 e) cr8b (wrF xs0 xs1 n0 n1 n3 e) cr4a (wrB xs0 xs1 n0 n1 n3 e) cr4b (wrFl xs0 xs1 xs3 n0 n1 n3 e) (wrBl xs0 xs1 xs3 n0 n1 n3 e) (wrFl xs0 xs1 xs3 n0 n1 n3 e) (wrBl xs0 xs1 xs3 n0 n1 n3 e) _ (by omega) (by omega) r8a.len r8b.len r4a.len r4b.len r8a.bytes r8b.bytes r4a.bytes r4b.bytes).mono ?_
  rintro e w54 ⟨rfl, b54⟩
  have k54 : Below (World.ret W θ53).heap.size (World.ret W θ53) w54 := below_on k53 b54
  have z54 := b54.size
  replace r1 := r1.on b54
  replace r2 := r2.on b54
  replace r3 := r3.on b54
  replace r4a := r4a.on b54
  replace r4b := r4b.on b54
  replace r5 := r5.on b54
  replace r6 := r6.on b54
  replace r7 := r7.on b54
  replace r8a := r8a.on b54
  replace r8b := r8b.on b54
  replace r9 := r9.on b54
  replace r10 := r10.on b54
  replace r11 := r11.on b54
  replace cb9 := cb9.on b54
  replace cb14 := cb14.on b54
  clear l14_0 l14_1 l14_2 l9_0 l9_1 l9_2
  go_wp2_with (fail)
  intro w55 e55 t55
  have k55 : Below W.heap.size W w55 := e55.below (by first | exact t55 | exact t55.trans k52.tape | exact t55.trans k26.tape | exact t55.trans k25.tape) k54
  have z55 := e55.size
  replace r1 := r1.like e55
  replace r2 := r2.like e55
  replace r3 := r3.like e55
  replace r4a := r4a.like e55
  replace r4b := r4b.like e55
  replace r5 := r5.like e55
  replace r6 := r6.like e55
  replace r7 := r7.like e55
  replace r8a := r8a.like e55
  replace r8b := r8b.like e55
  replace r9 := r9.like e55
  replace r10 := r10.like e55
  replace r11 := r11.like e55
  replace cb9 := cb9.like e55
  replace cb14 := cb14.like e55
  refine hKK _ _ ?_
  clear hKK KK
  refine BesB.seq fun KK hKK => ?_
  refine BesB.code tameAS rfl rfl (by kernel_rfl) (noFLW _) fun K hK θ56 w56 b56 => ?_
  have k56 := below_onr k55 θ56 b56
  have z56 : w55.heap.size ≤ w56.heap.size := b56.size
  replace r1 := (r1.ret θ56).on b56
  replace r2 := (r2.ret θ56).on b56
  replace r3 := (r3.ret θ56).on b56
  replace r4a := (r4a.ret θ56).on b56
  replace r4b := (r4b.ret θ56).on b56
  replace r5 := (r5.ret θ56).on b56
  replace r6 := (r6.ret θ56).on b56
  replace r7 := (r7.ret θ56).on b56
  replace r8a := (r8a.ret θ56).on b56
  replace r8b := (r8b.ret θ56).on b56
  replace r9 := (r9.ret θ56).on b56
  replace r10 := (r10.ret θ56).on b56
  replace r11 := (r11.ret θ56).on b56
  replace cb9 := (cb9.ret θ56).on b56
  replace cb14 := (cb14.ret θ56).on b56
  go_wp2_with (fail)
  intro w57 e57 t57
  have k57 : Below W.heap.size W w57 := e57.below (by first | exact t57 | exact t57.trans k55.tape | exact t57.trans k26.tape | exact t57.trans k25.tape) k56
  have z57 := e57.size
  replace r1 := r1.like e57
  replace r2 := r2.like e57
  replace r3 := r3.like e57
  replace r4a := r4a.like e57
  replace r4b := r4b.like e57
  replace r5 := r5.like e57
  replace r6 := r6.like e57
  replace r7 := r7.like e57
  replace r8a := r8a.like e57
  replace r8b := r8b.like e57
  replace r9 := r9.like e57
  replace r10 := r10.like e57
  replace r11 := r11.like e57
  replace cb9 := cb9.like e57
  replace cb14 := cb14.like e57
  refine hKK _ _ ?_
  clear hKK KK
  refine BesB.seq fun KK hKK => ?_
  refine BesB.code tameAS rfl rfl (by kernel_rfl) (noFLW _) fun K hK θ58 w58 b58 => ?_
  have k58 := below_onr k57 θ58 b58
  have z58 : w57.heap.size ≤ w58.heap.size := b58.size
  replace r1 := (r1.ret θ58).on b58
  replace r2 := (r2.ret θ58).on b58
  replace r3 := (r3.ret θ58).on b58
  replace r4a := (r4a.ret θ58).on b58
  replace r4b := (r4b.ret θ58).on b58
  replace r5 := (r5.ret θ58).on b58
  replace r6 := (r6.ret θ58).on b58
  replace r7 := (r7.ret θ58).on b58
  replace r8a := (r8a.ret θ58).on b58
  replace r8b := (r8b.ret θ58).on b58
  replace r9 := (r9.ret θ58).on b58
  replace r10 := (r10.ret θ58).on b58
  replace r11 := (r11.ret θ58).on b58
  replace cb9 := (cb9.ret θ58).on b58
  replace cb14 := (cb14.ret θ58).on b58
  have l14_0 : w58.cell? ⟨B14, 0, none⟩ = some (.int .i64 (wrE xs0 xs1 n0 n1 n3 e)) := (cb14.2 0).1
  have l14_1 : w58.cell? ⟨B14, 1, none⟩ = some (.slice pr8a (wrF xs0 xs1 n0 n1 n3 e) cr8a) := (cb14.2 1).1
  have l14_2 : w58.cell? ⟨B14, 2, none⟩ = some (.slice pr8b (wrB xs0 xs1 n0 n1 n3 e) cr8b) := (cb14.2 2).1
  go_wp2_with (fail)
  clear l14_0 l14_1 l14_2
  refine (markLetter_own _ _ _ _ (wrE xs0 xs1 n0 n1 n3 e) pr8a pr8b (wrF xs0 xs1 n0 n1 n3 e) cr8a (wrB xs0 xs1 n0 n1 n3 e) cr8b (wrFl xs0 xs1 xs3 n0 n1 n3 e) (wrBl xs0 xs1 xs3 n0 n1 n3 e) 1 _ (by omega) (by omega) (by omega) (by omega) (by omega) (by omega) r8a r8b).mono ?_
  rintro e w59 ⟨rfl, wa59, wb59, ba59, ga59, gb59, ma59, mb59⟩
  have k59 : Below (World.ret W θ58).heap.size (World.ret W θ58) w59 := marks_below k58 ba59 ga59 gb59 r8a r8b (by omega) (by show W.heap.size ≤ _; omega) (by show W.heap.size ≤ _; omega)
  have z59 := marks_size ba59 ga59 gb59
  replace r1 := r1.past ba59 ga59 gb59 r8a r8b (by omega) (by omega) (by omega)
  replace r2 := r2.past ba59 ga59 gb59 r8a r8b (by omega) (by omega) (by omega)
  replace r3 := r3.past ba59 ga59 gb59 r8a r8b (by omega) (by omega) (by omega)
  replace r4a := r4a.past ba59 ga59 gb59 r8a r8b (by omega) (by omega) (by omega)
  replace r4b := r4b.past ba59 ga59 gb59 r8a r8b (by omega) (by omega) (by omega)
  replace r5 := r5.past ba59 ga59 gb59 r8a r8b (by omega) (by omega) (by omega)
  replace r6 := r6.past ba59 ga59 gb59 r8a r8b (by omega) (by omega) (by omega)
  replace r7 := r7.past ba59 ga59 gb59 r8a r8b (by omega) (by omega) (by omega)
  replace r9 := r9.past ba59 ga59 gb59 r8a r8b (by omega) (by omega) (by omega)
  replace r10 := r10.past ba59 ga59 gb59 r8a r8b (by omega) (by omega) (by omega)
  replace r11 := r11.past ba59 ga59 gb59 r8a r8b (by omega) (by omega) (by omega)
  replace cb9 := cb9.past ba59 ga59 gb59 r8a r8b (by omega) (by omega) (by omega)
  replace cb14 := cb14.past ba59 ga59 gb59 r8a r8b (by omega) (by omega) (by omega)
  clear r8a r8b ga59 gb59 ba59
  have r8a := ma59
  have r8b := mb59
  clear ma59 mb59
  go_wp2_with (fail)
  intro w60 e60 t60
  have k60 : Below W.heap.size W w60 := e60.below (by first | exact t60 | exact t60.trans k57.tape | exact t60.trans k26.tape | exact t60.trans k25.tape) k59
  have z60 := e60.size
  replace r4a := r4a.like e60
  replace r4b := r4b.like e60
  replace r8a := r8a.like e60
  replace r8b := r8b.like e60
  replace cb9 := cb9.like e60
  replace cb14 := cb14.like e60
  refine hKK _ _ ?_
  clear hKK KK
  refine BesB.seq fun KK hKK => ?_
  refine BesB.code tameAS rfl rfl (by kernel_rfl) (noFLW _) fun K hK θ61 w61 b61 => ?_
  have k61 := below_onr k60 θ61 b61
  have z61 : w60.heap.size ≤ w61.heap.size := b61.size
  replace r4a := (r4a.ret θ61).on b61
  replace r4b := (r4b.ret θ61).on b61
  replace r8a := (r8a.ret θ61).on b61
  replace r8b := (r8b.ret θ61).on b61
  replace cb9 := (cb9.ret θ61).on b61
  replace cb14 := (cb14.ret θ61).on b61
  go_wp2_with (fail)
  intro w62 e62 t62
  have k62 : Below W.heap.size W w62 := e62.below (by first | exact t62 | exact t62.trans k60.tape | exact t62.trans k26.tape | exact t62.trans k25.tape) k61
  have z62 := e62.size
  replace r4a := r4a.like e62
  replace r4b := r4b.like e62
  replace r8a := r8a.like e62
  replace r8b := r8b.like e62
  replace cb9 := cb9.like e62
  replace cb14 := cb14.like e62
  refine hKK _ _ ?_
  clear hKK KK
  refine BesB.seq fun KK hKK => ?_
  refine BesB.code tameAS rfl rfl (by kernel_rfl) (noFLW _) fun K hK θ63 w63 b63 => ?_
  have k63 := below_onr k62 θ63 b63
  have z63 : w62.heap.size ≤ w63.heap.size := b63.size
  replace r4a := (r4a.ret θ63).on b63
  replace r4b := (r4b.ret θ63).on b63
  replace r8a := (r8a.ret θ63).on b63
  replace r8b := (r8b.ret θ63).on b63
  replace cb9 := (cb9.ret θ63).on b63
  replace cb14 := (cb14.ret θ63).on b63
  have l14_0 : w63.cell? ⟨B14, 0, none⟩ = some (.int .i64 (wrE xs0 xs1 n0 n1 n3 e)) := (cb14.2 0).1
  have l14_1 : w63.cell? ⟨B14, 1, none⟩ = some (.slice pr8a (wrF xs0 xs1 n0 n1 n3 e) cr8a) := (cb14.2 1).1
  have l14_2 : w63.cell? ⟨B14, 2, none⟩ = some (.slice pr8b (wrB xs0 xs1 n0 n1 n3 e) cr8b) := (cb14.2 2).1
  go_wp2_with (fail)
  refine (heldLetter_any (wrE xs0 xs1 n0 n1 n3 e) pr8a pr8b (wrF xs0 xs1 n0 n1 n3 e) cr8a (wrB xs0 xs1 n0 n1 n3 e) cr8b 1 _ (by omega) (by omega) (by omega) (by omega) r8a.bytes r8b.bytes).mono ?_
  rintro e w64 ⟨rfl, b64⟩
  have k64 : Below (World.ret W θ63).heap.size (World.ret W θ63) w64 := below_on k63 b64
  have z64 := b64.size
  replace r4a := r4a.on b64
  replace r4b := r4b.on b64
  replace r8a := r8a.on b64
  replace r8b := r8b.on b64
  replace cb9 := cb9.on b64
  replace cb14 := cb14.on b64
  clear l14_0 l14_1 l14_2
  go_wp2_with (fail)
  intro w65 e65 t65
  have k65 : Below W.heap.size W w65 := e65.below (by first | exact t65 | exact t65.trans k62.tape | exact t65.trans k26.tape | exact t65.trans k25.tape) k64
  have z65 := e65.size
  replace r4a := r4a.like e65
  replace r4b := r4b.like e65
  replace r8a := r8a.like e65
  replace r8b := r8b.like e65
  replace cb9 := cb9.like e65
  replace cb14 := cb14.like e65
  refine hKK _ _ ?_
  clear hKK KK
  refine BesB.seq fun KK hKK => ?_
  refine BesB.code tameAS rfl rfl (by kernel_rfl) (noFLW _) fun K hK θ66 w66 b66 => ?_
  have k66 := below_onr k65 θ66 b66
  have z66 : w65.heap.size ≤ w66.heap.size := b66.size
  replace r4a := (r4a.ret θ66).on b66
  replace r4b := (r4b.ret θ66).on b66
  replace r8a := (r8a.ret θ66).on b66
  replace r8b := (r8b.ret θ66).on b66
  replace cb9 := (cb9.ret θ66).on b66
  replace cb14 := (cb14.ret θ66).on b66
  go_wp2_with (fail)
  intro w67 e67 t67
  have k67 : Below W.heap.size W w67 := e67.below (by first | exact t67 | exact t67.trans k65.tape | exact t67.trans k26.tape | exact t67.trans k25.tape) k66
  have z67 := e67.size
  replace r4a := r4a.like e67
  replace r4b := r4b.like e67
  replace r8a := r8a.like e67
  replace r8b := r8b.like e67
  replace cb9 := cb9.like e67
  replace cb14 := cb14.like e67
  refine hKK _ _ ?_
  clear hKK KK
  refine BesB.seq fun KK hKK => ?_
  refine BesB.code tameAS rfl rfl (by kernel_rfl) (noFLW _) fun K hK θ68 w68 b68 => ?_
  have k68 := below_onr k67 θ68 b68
  have z68 : w67.heap.size ≤ w68.heap.size := b68.size
  replace r4a := (r4a.ret θ68).on b68
  replace r4b := (r4b.ret θ68).on b68
  replace r8a := (r8a.ret θ68).on b68
  replace r8b := (r8b.ret θ68).on b68
  replace cb9 := (cb9.ret θ68).on b68
  replace cb14 := (cb14.ret θ68).on b68
  go_wp2_with (fail)
  intro w69 e69 t69
  have k69 : Below W.heap.size W w69 := e69.below (by first | exact t69 | exact t69.trans k67.tape | exact t69.trans k26.tape | exact t69.trans k25.tape) k68
  have z69 := e69.size
  replace r4a := r4a.like e69
  replace r4b := r4b.like e69
  replace r8a := r8a.like e69
  replace r8b := r8b.like e69
  replace cb9 := cb9.like e69
  replace cb14 := cb14.like e69
  refine hKK _ _ ?_
  clear hKK KK
  refine BesB.seq fun KK hKK => ?_
  refine BesB.ctlG (fun _ => stepG_region) ?_
  refine BesB.value (v := .slice p0 n0 q0) rfl rfl (by decide) (fun _ => by simp [go_sem, execOp, Act.eval]) (fun _ => by simp [go_sem, execOp, Act.eval]) ?_
  walk_nrm
  refine BesB.call rfl rfl (by decide) rfl Tryz.func19 (by kernel_rfl) (by kernel_rfl) ?_
  walk_nrm
  refine (BCalls.row tameAS (by decide) (by decide) (by intro t _ _; simp [alsS]) fun θ w1 b => toByteS_own p0 n0 q0 xs0 w1 hn0 hx0 (in_below (in_ret (in_below h0 k69) θ) b)) _ _ _ fun v w70 hv => ?_
  obtain ⟨pr12, cr12, rfl, r12, b70⟩ := hv
  have k70 : Below W.heap.size W w70 := below_on k69 b70
  have z70 := b70.size
  replace r4a := r4a.on b70
  replace r4b := r4b.on b70
  replace r8a := r8a.on b70
  replace r8b := r8b.on b70
  replace cb9 := cb9.on b70
  replace cb14 := cb14.on b70
  rw [Frame.finish_at]
  walk_nrm
  refine BesB.value (v := .slice p1 n1 q1) rfl rfl (by decide) (fun _ => by simp [go_sem, execOp, Act.eval]) (fun _ => by simp [go_sem, execOp, Act.eval]) ?_
  walk_nrm
  refine BesB.call rfl rfl (by decide) rfl Tryz.func19 (by kernel_rfl) (by kernel_rfl) ?_
  walk_nrm
  refine (BCalls.row tameAS (by decide) (by decide) (by intro t _ _; simp [alsS]) fun θ w1 b => toByteS_own p1 n1 q1 xs1 w1 hn1 hx1 (in_below (in_ret (in_below h1 k70) θ) b)) _ _ _ fun v w71 hv => ?_
  obtain ⟨pr13, cr13, rfl, r13, b71⟩ := hv
  have k71 : Below W.heap.size W w71 := below_on k70 b71
  have z71 := b71.size
  replace r4a := r4a.on b71
  replace r4b := r4b.on b71
  replace r8a := r8a.on b71
  replace r8b := r8b.on b71
  replace r12 := r12.on b71
  replace cb9 := cb9.on b71
  replace cb14 := cb14.on b71
  rw [Frame.finish_at]
  walk_nrm
  refine BesB.value (v := .int .i64 e) rfl rfl (by decide) (fun _ => by simp [go_sem, execOp, Act.eval]) (fun _ => by simp [go_sem, execOp, Act.eval]) ?_
  walk_nrm
  refine BesB.value (v := .slice p3 n3 q3) rfl rfl (by decide) (fun _ => by simp [go_sem, execOp, Act.eval]) (fun _ => by simp [go_sem, execOp, Act.eval]) ?_
  walk_nrm
  refine BesB.call rfl rfl (by decide) rfl Tryz.func19 (by kernel_rfl) (by kernel_rfl) ?_
  walk_nrm
  refine (BCalls.row tameAS (by decide) (by decide) (by intro t _ _; simp [alsS]) fun θ w1 b => toByteS_own p3 n3 q3 xs3 w1 hn3 hx3 (in_below (in_ret (in_below h3 k71) θ) b)) _ _ _ fun v w72 hv => ?_
  obtain ⟨pr14, cr14, rfl, r14, b72⟩ := hv
  have k72 : Below W.heap.size W w72 := below_on k71 b72
  have z72 := b72.size
  replace r4a := r4a.on b72
  replace r4b := r4b.on b72
  replace r8a := r8a.on b72
  replace r8b := r8b.on b72
  replace r12 := r12.on b72
  replace r13 := r13.on b72
  replace cb9 := cb9.on b72
  replace cb14 := cb14.on b72
  rw [Frame.finish_at]
  walk_nrm
  refine BesB.call rfl rfl (by decide) rfl Tryz.func8 (by kernel_rfl) (by kernel_rfl) ?_
  walk_nrm
  refine (implWrite_k pr12 pr13 pr14 n0 cr12 n1 cr13 n3 cr14 xs0 xs1 xs3 e C ce _ (hg.on k72) (r12.tee hb0) (r13.tee hb1) (r14.tee hb3) he hn1) _ _ _ fun v w73 hv => ?_
  obtain ⟨l, rfl, ⟨pr15a, cr15a, pr15b, cr15b, midr15, rfl, r15a, r15b, hmr15, hur15⟩, b73⟩ := hv
  have k73 : Below W.heap.size W w73 := below_on k72 b73
  have z73 := b73.size
  replace r4a := r4a.on b73
  replace r4b := r4b.on b73
  replace r8a := r8a.on b73
  replace r8b := r8b.on b73
  replace cb9 := cb9.on b73
  replace cb14 := cb14.on b73
  rw [Frame.finish_at]
  walk_nrm
  refine BesB.value (v := .tuple #[.agg #[.int .i64 (wrE xs0 xs1 n0 n1 n3 e), .slice pr15a (wrF xs0 xs1 n0 n1 n3 e) cr15a, .slice pr15b (wrB xs0 xs1 n0 n1 n3 e) cr15b], .bool (wrK xs0 xs1 n0 n1 n3 e)]) rfl rfl (by decide) (fun _ => by simp [go_sem, execOp, Act.eval]) (fun _ => by simp [go_sem, execOp, Act.eval]) ?_
  walk_nrm
  refine BesB.value (v := .agg #[.int .i64 (wrE xs0 xs1 n0 n1 n3 e), .slice pr15a (wrF xs0 xs1 n0 n1 n3 e) cr15a, .slice pr15b (wrB xs0 xs1 n0 n1 n3 e) cr15b]) rfl rfl (by decide) (fun _ => by simp [go_sem, execOp, Act.eval]) (fun _ => by simp [go_sem, execOp, Act.eval]) ?_
  walk_nrm
  refine BesB.value (v := .bool (wrK xs0 xs1 n0 n1 n3 e)) rfl rfl (by decide) (fun _ => by simp [go_sem, execOp, Act.eval]) (fun _ => by simp [go_sem, execOp, Act.eval]) ?_
  walk_nrm
  refine BesB.boxL (e := (wrE xs0 xs1 n0 n1 n3 e)) (p := pr15a) (n := (wrF xs0 xs1 n0 n1 n3 e)) (c := cr15a) (q := pr15b) (m := (wrB xs0 xs1 n0 n1 n3 e)) (d := cr15b) rfl rfl rfl rfl (fun _ => rfl) rfl (by decide) (fun _ => rfl) (fun _ => rfl) (Nat.le_trans gR k73.size) fun w74 B19 b74 lB19 uB19 cb19 => ?_
  walk_nrm
  have k74 : Below W.heap.size W w74 := below_on k73 b74
  have z74 := b74.size
  replace r4a := r4a.on b74
  replace r4b := r4b.on b74
  replace r8a := r8a.on b74
  replace r8b := r8b.on b74
  replace r15a := r15a.on b74
  replace r15b := r15b.on b74
  replace cb9 := cb9.on b74
  replace cb14 := cb14.on b74
  refine BesB.value (v := .bool (wrK xs0 xs1 n0 n1 n3 e)) rfl rfl (by decide) (fun _ => by simp [go_sem, execOp, Act.eval]) (fun _ => by simp [go_sem, execOp, Act.eval]) ?_
  walk_nrm
  refine BesB.ctlG (fun _ => stepG_region_end) ?_
  refine hKK _ _ ?_
  clear hKK KK
  refine BesB.seq fun KK hKK => ?_
  refine BesB.code tameAS rfl rfl (by kernel_rfl) (noFLW _) fun K hK θ75 w75 b75 => ?_
  have k75 := below_onr k74 θ75 b75
  have z75 : w74.heap.size ≤ w75.heap.size := b75.size
  replace r4a := (r4a.ret θ75).on b75
  replace r4b := (r4b.ret θ75).on b75
  replace r8a := (r8a.ret θ75).on b75
  replace r8b := (r8b.ret θ75).on b75
  replace r15a := (r15a.ret θ75).on b75
  replace r15b := (r15b.ret θ75).on b75
  replace cb9 := (cb9.ret θ75).on b75
  replace cb14 := (cb14.ret θ75).on b75
  replace cb19 := (cb19.ret θ75).on b75
  have l19_0 : w75.cell? ⟨B19, 0, none⟩ = some (.int .i64 (wrE xs0 xs1 n0 n1 n3 e)) := (cb19.2 0).1
  have l19_1 : w75.cell? ⟨B19, 1, none⟩ = some (.slice pr15a (wrF xs0 xs1 n0 n1 n3 e) cr15a) := (cb19.2 1).1
  have l19_2 : w75.cell? ⟨B19, 2, none⟩ = some (.slice pr15b (wrB xs0 xs1 n0 n1 n3 e) cr15b) := (cb19.2 2).1
  have l9_0 : w75.cell? ⟨B9, 0, none⟩ = some (.int .i64 (wrE xs0 xs1 n0 n1 n3 e)) := (cb9.2 0).1
  have l9_1 : w75.cell? ⟨B9, 1, none⟩ = some (.slice pr4a (wrF xs0 xs1 n0 n1 n3 e) cr4a) := (cb9.2 1).1
  have l9_2 : w75.cell? ⟨B9, 2, none⟩ = some (.slice pr4b (wrB xs0 xs1 n0 n1 n3 e) cr4b) := (cb9.2 2).1
  go_wp2_with (fail)
  refine (eqLetter_any (wrE xs0 xs1 n0 n1 n3 e) (wrE xs0 xs1 n0 n1 n3 e) pr15a pr15b pr4a pr4b (wrF xs0 xs1 n0 n1 n3 e) cr15a (wrB xs0 xs1 n0 n1 n3 e) cr15b (wrF xs0 xs1 n0 n1 n3 e) cr4a (wrB xs0 xs1 n0 n1 n3 e) cr4b (wrFl xs0 xs1 xs3 n0 n1 n3 e) (wrBl xs0 xs1 xs3 n0 n1 n3 e) (wrFl xs0 xs1 xs3 n0 n1 n3 e) (wrBl xs0 xs1 xs3 n0 n1 n3 e) _ (by omega) (by omega) r15a.len r15b.len r4a.len r4b.len r15a.bytes r15b.bytes r4a.bytes r4b.bytes).mono ?_
  rintro e w76 ⟨rfl, b76⟩
  have k76 : Below (World.ret W θ75).heap.size (World.ret W θ75) w76 := below_on k75 b76
  have z76 := b76.size
  replace r8a := r8a.on b76
  replace r8b := r8b.on b76
  replace cb9 := cb9.on b76
  replace cb14 := cb14.on b76
  replace cb19 := cb19.on b76
  clear l19_0 l19_1 l19_2 l9_0 l9_1 l9_2
  go_wp2_with (fail)
  intro w77 e77 t77
  have k77 : Below W.heap.size W w77 := e77.below (by first | exact t77 | exact t77.trans k74.tape | exact t77.trans k73.tape | exact t77.trans k72.tape | exact t77.trans k71.tape | exact t77.trans k70.tape | exact t77.trans k26.tape | exact t77.trans k25.tape) k76
  have z77 := e77.size
  replace r8a := r8a.like e77
  replace r8b := r8b.like e77
  replace cb9 := cb9.like e77
  replace cb14 := cb14.like e77
  replace cb19 := cb19.like e77
  refine hKK _ _ ?_
  clear hKK KK
  refine BesB.seq fun KK hKK => ?_
  refine BesB.code tameAS rfl rfl (by kernel_rfl) (noFLW _) fun K hK θ78 w78 b78 => ?_
  have k78 := below_onr k77 θ78 b78
  have z78 : w77.heap.size ≤ w78.heap.size := b78.size
  replace r8a := (r8a.ret θ78).on b78
  replace r8b := (r8b.ret θ78).on b78
  replace cb9 := (cb9.ret θ78).on b78
  replace cb14 := (cb14.ret θ78).on b78
  replace cb19 := (cb19.ret θ78).on b78
  go_wp2_with (fail)
  intro w79 e79 t79
  have k79 : Below W.heap.size W w79 := e79.below (by first | exact t79 | exact t79.trans k77.tape | exact t79.trans k74.tape | exact t79.trans k73.tape | exact t79.trans k72.tape | exact t79.trans k71.tape | exact t79.trans k70.tape | exact t79.trans k26.tape | exact t79.trans k25.tape) k78
  have z79 := e79.size
  replace r8a := r8a.like e79
  replace r8b := r8b.like e79
  replace cb9 := cb9.like e79
  replace cb14 := cb14.like e79
  replace cb19 := cb19.like e79
  refine hKK _ _ ?_
  clear hKK KK
  refine BesB.seq fun KK hKK => ?_
  refine BesB.code tameAS rfl rfl (by kernel_rfl) (noFLW _) fun K hK θ80 w80 b80 => ?_
  have k80 := below_onr k79 θ80 b80
  have z80 : w79.heap.size ≤ w80.heap.size := b80.size
  replace r8a := (r8a.ret θ80).on b80
  replace r8b := (r8b.ret θ80).on b80
  replace cb9 := (cb9.ret θ80).on b80
  replace cb14 := (cb14.ret θ80).on b80
  replace cb19 := (cb19.ret θ80).on b80
  have l14_0 : w80.cell? ⟨B14, 0, none⟩ = some (.int .i64 (wrE xs0 xs1 n0 n1 n3 e)) := (cb14.2 0).1
  have l14_1 : w80.cell? ⟨B14, 1, none⟩ = some (.slice pr8a (wrF xs0 xs1 n0 n1 n3 e) cr8a) := (cb14.2 1).1
  have l14_2 : w80.cell? ⟨B14, 2, none⟩ = some (.slice pr8b (wrB xs0 xs1 n0 n1 n3 e) cr8b) := (cb14.2 2).1
  go_wp2_with (fail)
  refine (heldLetter_any (wrE xs0 xs1 n0 n1 n3 e) pr8a pr8b (wrF xs0 xs1 n0 n1 n3 e) cr8a (wrB xs0 xs1 n0 n1 n3 e) cr8b 1 _ (by omega) (by omega) (by omega) (by omega) r8a.bytes r8b.bytes).mono ?_
  rintro e w81 ⟨rfl, b81⟩
  have k81 : Below (World.ret W θ80).heap.size (World.ret W θ80) w81 := below_on k80 b81
  have z81 := b81.size
  replace cb9 := cb9.on b81
  replace cb14 := cb14.on b81
  replace cb19 := cb19.on b81
  clear l14_0 l14_1 l14_2
  go_wp2_with (fail)
  intro w82 e82 t82
  have k82 : Below W.heap.size W w82 := e82.below (by first | exact t82 | exact t82.trans k79.tape | exact t82.trans k74.tape | exact t82.trans k73.tape | exact t82.trans k72.tape | exact t82.trans k71.tape | exact t82.trans k70.tape | exact t82.trans k26.tape | exact t82.trans k25.tape) k81
  have z82 := e82.size
  replace cb9 := cb9.like e82
  replace cb14 := cb14.like e82
  replace cb19 := cb19.like e82
  refine hKK _ _ ?_
  clear hKK KK
  refine BesB.seq fun KK hKK => ?_
  refine BesB.code tameAS rfl rfl (by kernel_rfl) (noFLW _) fun K hK θ83 w83 b83 => ?_
  have k83 := below_onr k82 θ83 b83
  have z83 : w82.heap.size ≤ w83.heap.size := b83.size
  replace cb9 := (cb9.ret θ83).on b83
  replace cb14 := (cb14.ret θ83).on b83
  replace cb19 := (cb19.ret θ83).on b83
  go_wp2_with (fail)
  intro w84 e84 t84
  have k84 : Below W.heap.size W w84 := e84.below (by first | exact t84 | exact t84.trans k82.tape | exact t84.trans k74.tape | exact t84.trans k73.tape | exact t84.trans k72.tape | exact t84.trans k71.tape | exact t84.trans k70.tape | exact t84.trans k26.tape | exact t84.trans k25.tape) k83
  have z84 := e84.size
  replace cb9 := cb9.like e84
  replace cb14 := cb14.like e84
  replace cb19 := cb19.like e84
  refine hKK _ _ ?_
  clear hKK KK
  refine BesB.seq fun KK hKK => ?_
  refine BesB.code tameAS rfl rfl (by kernel_rfl) (noFLW _) fun K hK θ85 w85 b85 => ?_
  have k85 := below_onr k84 θ85 b85
  have z85 : w84.heap.size ≤ w85.heap.size := b85.size
  replace cb9 := (cb9.ret θ85).on b85
  replace cb14 := (cb14.ret θ85).on b85
  replace cb19 := (cb19.ret θ85).on b85
  go_wp2_with (fail)
  intro w86 e86 t86
  have k86 : Below W.heap.size W w86 := e86.below (by first | exact t86 | exact t86.trans k84.tape | exact t86.trans k74.tape | exact t86.trans k73.tape | exact t86.trans k72.tape | exact t86.trans k71.tape | exact t86.trans k70.tape | exact t86.trans k26.tape | exact t86.trans k25.tape) k85
  have z86 := e86.size
  replace cb9 := cb9.like e86
  replace cb14 := cb14.like e86
  replace cb19 := cb19.like e86
  refine hKK _ _ ?_
  clear hKK KK
  refine BesB.ctlG (fun _ => stepG_seq) ?_
  refine BesB.ctlG (fun _ => stepG_region) ?_
  refine BesB.value (v := .bool true) rfl rfl (by decide) (fun _ => by simp [go_sem, execOp, Act.eval]) (fun _ => by simp [go_sem, execOp, Act.eval]) ?_
  walk_nrm
  refine BesB.ctlG (fun _ => stepG_region_end) ?_
  refine BesB.ctlG (fun _ => stepG_ret') ?_
  exact fun w1 _ hl => .now ⟨_, rfl, rfl, rfl, rfl, rfl, rfl, below_lay (below_on k86 hl)⟩
end Go.Proofs.YtnpffnhiefgglaaGreatDoor
namespace Go.Proofs.YtnpffnhiefgglaaGreatDoor
open Go.RowKit
set_option maxRecDepth 100000
theorem keysTab_of {W : World} (h : Lib.TabIs Tryz.prog W "loop.example/g00473/impl.hashKeys" .u32 (natsL keysL)) : KeysIs W := fun t ht => by
  have := h.cell (g := 2) (by kernel_rfl) t (by rw [natsL_length]; exact ht)
  rw [this, ← natsL_getD]
end Go.Proofs.YtnpffnhiefgglaaGreatDoor
