/-
  A part of the proof.
-/
import Derived.Test.YthjapmdikbmmkaaDoorParz29
namespace Go.Proofs.YthjapmdikbmmkaaDoor
open Go Go.Conc Go.RowKit
set_option maxRecDepth 100000
def bF : Frame := { (default : Frame) with fn := 3, kind := .normal }
noncomputable def bodyF : Code := Tryd.f3.body.getD .skip
theorem enter_F (x : Value) : Frame.enter Tryd.prog 3 #[x] .normal = bF.at ⟨#[x] ++ Array.replicate 196 undef, []⟩ [.code bodyF] := by
  simp [Frame.enter, Frame.at, bF, bodyF, Tryd.func3, Tryd.f3]
theorem noFF (tmps : Array Value) : ∀ t, alsS.f bF.fn t = true → FnV alsS (tmps.getD t undef) := fun t h => by simp [alsS, bF] at h
set_option maxHeartbeats 16000000 in
theorem lawSeals_small (p0 : Option Addr) (n0 q0 : Nat) (xs0 : List Int) (C : Array Value) (e : TypeId) (W : World) (hg : Gr C e W) (hn0 : n0 ≤ 1048576) (hx0 : xs0.length = n0) (h0 : BytesIn W p0 n0 xs0) (hb0 : ∀ x ∈ xs0, 0 ≤ x ∧ x < 256) :
    BesB Tryd.prog (LawDone 3 2 W) (G (Frame.enter Tryd.prog 3 #[.slice p0 n0 q0] .normal) []) W := by
  rw [enter_F]
  simp only [bodyF, Tryd.f3, Option.getD_some]
  walk_nrm
  have k0 : Below W.heap.size W W := .refl _ _
  refine BesB.seq fun KK hKK => ?_
  refine BesB.code tameAS rfl rfl (by kernel_rfl) (noFF _) fun K hK θ1 w1 b1 => ?_
  have k1 := below_onr k0 θ1 b1
  have z1 : W.heap.size ≤ w1.heap.size := b1.size
  go_wp2_with (fail)
  intro w2 e2 t2
  have k2 : Below W.heap.size W w2 := e2.below (by first | exact t2 | exact t2.trans k0.tape) k1
  have z2 := e2.size
  refine hKK _ _ ?_
  clear hKK KK
  refine BesB.seq fun KK hKK => ?_
  refine BesB.code tameAS rfl rfl (by kernel_rfl) (noFF _) fun K hK θ3 w3 b3 => ?_
  have k3 := below_onr k2 θ3 b3
  have z3 : w2.heap.size ≤ w3.heap.size := b3.size
  go_wp2_with (fail)
  refine (big_small p0 n0 q0 _ hn0).mono ?_
  rintro e w4 ⟨rfl, b4⟩
  have k4 : Below (World.ret W θ3).heap.size (World.ret W θ3) w4 := below_on k3 b4
  have z4 := b4.size
  go_wp2_with (fail)
  intro w5 e5 t5
  have k5 : Below W.heap.size W w5 := e5.below (by first | exact t5 | exact t5.trans k2.tape) k4
  have z5 := e5.size
  refine hKK _ _ ?_
  clear hKK KK
  refine BesB.seq fun KK hKK => ?_
  refine BesB.code tameAS rfl rfl (by kernel_rfl) (noFF _) fun K hK θ6 w6 b6 => ?_
  have k6 := below_onr k5 θ6 b6
  have z6 : w5.heap.size ≤ w6.heap.size := b6.size
  go_wp2_with (fail)
  refine (dSeal p0 n0 q0 xs0 _ hn0 hx0 (in_below (in_ret h0 θ6) k6) hb0).mono ?_
  rintro e w7 ⟨vA, kA1, kA2, kA3, kA4, yA1, yA2, yA3, yA4, rfl, ⟨pA1, cA1, pA2, cA2, pA3, cA3, pA4, cA4, rfl, sA1, sA2, sA3, sA4⟩, hfA, b7⟩
  have k7 : Below (World.ret W θ6).heap.size (World.ret W θ6) w7 := below_on k6 b7
  have z7 := b7.size
  go_wp2_with (fail)
  intro w8 e8 t8
  have k8 : Below W.heap.size W w8 := e8.below (by first | exact t8 | exact t8.trans k5.tape) k7
  have z8 := e8.size
  replace sA1 := sA1.like e8
  replace sA2 := sA2.like e8
  replace sA3 := sA3.like e8
  replace sA4 := sA4.like e8
  refine hKK _ _ ?_
  clear hKK KK
  have hA1 := sA1.len
  have hA2 := sA2.len
  have hA3 := sA3.len
  have hA4 := sA4.len
  have hA4c := sA4.cap
  obtain ⟨SN, SX, SB, hSN, hSX, CI, CS, hcase⟩ : ∃ (SN : Nat) (SX : List Int) (SB : Bool), SN ≤ 1516 ∧ (∀ x ∈ SX, 0 ≤ x ∧ x < 256) ∧ (∀ X : World, Gr C e X → BytesT X pA1 kA1 cA1 yA1 → BytesT X pA2 kA2 cA2 yA2 → BytesT X pA3 kA3 cA3 yA3 → BytesT X pA4 kA4 cA4 yA4 → BCalls Tryd.prog 8 #[.slice pA1 kA1 cA1, .slice pA2 kA2 cA2, .slice pA3 kA3 cA3, .slice pA4 kA4 cA4] X fun v w2 => ∃ p c, v = .tuple #[.slice p SN c, .bool SB] ∧ Own 5 w2 X.heap.size w2.heap.size (.slice p SN c) SN SX ∧ Below X.heap.size X w2) ∧ (∀ X : World, BytesIn X pA1 kA1 yA1 → BytesIn X pA2 kA2 yA2 → BytesIn X pA3 kA3 yA3 → BytesIn X pA4 kA4 yA4 → Calls Tryd.prog 9 #[.slice pA1 kA1 cA1, .slice pA2 kA2 cA2, .slice pA3 kA3 cA3, .slice pA4 kA4 cA4] X fun ex w2 => ∃ p c, ex = .returned (.tuple #[.slice p SN c, .bool SB]) ∧ Own 5 w2 X.heap.size w2.heap.size (.slice p SN c) SN SX ∧ Below X.heap.size X w2) ∧ (((kA1 = 32 ∧ kA2 = 12 ∧ kA3 ≤ 1500 ∧ kA4 ≤ 1500) ∧ SN = kA4 + 16 ∧ SX = seaL yA1 yA2 yA3 yA4 ∧ SB = true) ∨ (SN = 0 ∧ SB = false)) := by
    refine ⟨sealN kA1 kA2 kA3 kA4, sealX kA1 kA2 kA3 kA4 yA1 yA2 yA3 yA4, sealB kA1 kA2 kA3 kA4, sealN_le _ _ _ _, sealX_low _ _ _ _ _ _ _ _, fun X g i1 i2 i3 i4 => implSeal_b pA1 pA2 pA3 pA4 kA1 cA1 kA2 cA2 kA3 cA3 kA4 cA4 yA1 yA2 yA3 yA4 C e X g i1 i2 i3 i4, fun X i1 i2 i3 i4 => specSeal_o pA1 pA2 pA3 pA4 kA1 cA1 kA2 cA2 kA3 cA3 kA4 cA4 yA1 yA2 yA3 yA4 X hA1 hA2 hA3 hA4 hA4c i1 i2 i3 i4 hfA.b1 hfA.b2 hfA.b3, ?_⟩
    by_cases hok : kA1 = 32 ∧ kA2 = 12 ∧ kA3 ≤ 1500 ∧ kA4 ≤ 1500
    · exact .inl ⟨hok, if_pos hok, if_pos hok, decide_eq_true hok⟩
    · exact .inr ⟨if_neg hok, decide_eq_false hok⟩
  refine BesB.seq fun KK hKK => ?_
  refine BesB.ctlG (fun _ => stepG_region) ?_
  refine BesB.value (v := .slice pA1 kA1 cA1) rfl rfl (by decide) (fun _ => by simp [go_sem, execOp, Act.eval]) (fun _ => by simp [go_sem, execOp, Act.eval]) ?_
  walk_nrm
  refine BesB.value (v := .slice pA2 kA2 cA2) rfl rfl (by decide) (fun _ => by simp [go_sem, execOp, Act.eval]) (fun _ => by simp [go_sem, execOp, Act.eval]) ?_
  walk_nrm
  refine BesB.value (v := .slice pA3 kA3 cA3) rfl rfl (by decide) (fun _ => by simp [go_sem, execOp, Act.eval]) (fun _ => by simp [go_sem, execOp, Act.eval]) ?_
  walk_nrm
  refine BesB.value (v := .slice pA4 kA4 cA4) rfl rfl (by decide) (fun _ => by simp [go_sem, execOp, Act.eval]) (fun _ => by simp [go_sem, execOp, Act.eval]) ?_
  walk_nrm
  refine BesB.call rfl rfl (by decide) rfl Tryd.func8 (by kernel_rfl) (by kernel_rfl) ?_
  walk_nrm
  refine (CI _ (hg.on k8) (sA1.tee hfA.b1) (sA2.tee hfA.b2) (sA3.tee hfA.b3) (sA4.tee hfA.b4)) _ _ _ fun v w9 hv => ?_
  obtain ⟨pg, cg, rfl, rg, b9⟩ := hv
  have k9 : Below W.heap.size W w9 := below_on k8 b9
  have z9 := b9.size
  replace sA1 := sA1.on b9
  replace sA2 := sA2.on b9
  replace sA3 := sA3.on b9
  replace sA4 := sA4.on b9
  rw [Frame.finish_at]
  walk_nrm
  refine BesB.value (v := .tuple #[.slice pg SN cg, .bool SB]) rfl rfl (by decide) (fun _ => by simp [go_sem, execOp, Act.eval]) (fun _ => by simp [go_sem, execOp, Act.eval]) ?_
  walk_nrm
  refine BesB.value (v := .slice pg SN cg) rfl rfl (by decide) (fun _ => by simp [go_sem, execOp, Act.eval]) (fun _ => by simp [go_sem, execOp, Act.eval]) ?_
  walk_nrm
  refine BesB.value (v := .bool SB) rfl rfl (by decide) (fun _ => by simp [go_sem, execOp, Act.eval]) (fun _ => by simp [go_sem, execOp, Act.eval]) ?_
  walk_nrm
  refine BesB.value (v := .slice pg SN cg) rfl rfl (by decide) (fun _ => by simp [go_sem, execOp, Act.eval]) (fun _ => by simp [go_sem, execOp, Act.eval]) ?_
  walk_nrm
  refine BesB.value (v := .bool SB) rfl rfl (by decide) (fun _ => by simp [go_sem, execOp, Act.eval]) (fun _ => by simp [go_sem, execOp, Act.eval]) ?_
  walk_nrm
  refine BesB.ctlG (fun _ => stepG_region_end) ?_
  refine hKK _ _ ?_
  clear hKK KK
  refine BesB.seq fun KK hKK => ?_
  refine BesB.code tameAS rfl rfl (by kernel_rfl) (noFF _) fun K hK θ10 w10 b10 => ?_
  have k10 := below_onr k9 θ10 b10
  have z10 : w9.heap.size ≤ w10.heap.size := b10.size
  replace sA1 := (sA1.ret θ10).on b10
  replace sA2 := (sA2.ret θ10).on b10
  replace sA3 := (sA3.ret θ10).on b10
  replace sA4 := (sA4.ret θ10).on b10
  replace rg := (rg.ret θ10).on b10
  go_wp2_with (fail)
  refine (CS _ sA1.bytes sA2.bytes sA3.bytes sA4.bytes).mono ?_
  rintro e w11 ⟨pt, ct, rfl, rt, b11⟩
  have k11 : Below (World.ret W θ10).heap.size (World.ret W θ10) w11 := below_on k10 b11
  have z11 := b11.size
  replace sA1 := sA1.on b11
  replace sA2 := sA2.on b11
  replace sA3 := sA3.on b11
  replace sA4 := sA4.on b11
  replace rg := rg.on b11
  go_wp2_with (fail)
  intro w12 e12 t12
  have k12 : Below W.heap.size W w12 := e12.below (by first | exact t12 | exact t12.trans k9.tape) k11
  have z12 := e12.size
  replace sA1 := sA1.like e12
  replace sA2 := sA2.like e12
  replace sA3 := sA3.like e12
  replace sA4 := sA4.like e12
  replace rg := rg.like e12
  replace rt := rt.like e12
  refine hKK _ _ ?_
  clear hKK KK
  refine BesB.seq fun KK hKK => ?_
  refine BesB.code tameAS rfl rfl (by kernel_rfl) (noFF _) fun K hK θ13 w13 b13 => ?_
  have k13 := below_onr k12 θ13 b13
  have z13 : w12.heap.size ≤ w13.heap.size := b13.size
  replace sA1 := (sA1.ret θ13).on b13
  replace sA2 := (sA2.ret θ13).on b13
  replace sA3 := (sA3.ret θ13).on b13
  replace sA4 := (sA4.ret θ13).on b13
  replace rg := (rg.ret θ13).on b13
  replace rt := (rt.ret θ13).on b13
  go_wp2_with (fail)
  refine (dOpen p0 n0 q0 xs0 _ hn0 hx0 (in_below (in_ret h0 θ13) k13) hb0).mono ?_
  rintro e w14 ⟨vB, kB1, kB2, kB3, kB4, yB1, yB2, yB3, yB4, rfl, ⟨pB1, cB1, pB2, cB2, pB3, cB3, pB4, cB4, rfl, sB1, sB2, sB3, sB4⟩, hfB, b14⟩
  have k14 : Below (World.ret W θ13).heap.size (World.ret W θ13) w14 := below_on k13 b14
  have z14 := b14.size
  replace sA1 := sA1.on b14
  replace sA2 := sA2.on b14
  replace sA3 := sA3.on b14
  replace sA4 := sA4.on b14
  replace rg := rg.on b14
  replace rt := rt.on b14
  go_wp2_with (fail)
  intro w15 e15 t15
  have k15 : Below W.heap.size W w15 := e15.below (by first | exact t15 | exact t15.trans k12.tape | exact t15.trans k9.tape) k14
  have z15 := e15.size
  replace sA1 := sA1.like e15
  replace sA2 := sA2.like e15
  replace sA3 := sA3.like e15
  replace sA4 := sA4.like e15
  replace rg := rg.like e15
  replace rt := rt.like e15
  replace sB1 := sB1.like e15
  replace sB2 := sB2.like e15
  replace sB3 := sB3.like e15
  replace sB4 := sB4.like e15
  refine hKK _ _ ?_
  clear hKK KK
  refine BesB.seq fun KK hKK => ?_
  refine BesB.ctlG (fun _ => stepG_region) ?_
  refine BesB.value (v := .slice pB1 kB1 cB1) rfl rfl (by decide) (fun _ => by simp [go_sem, execOp, Act.eval]) (fun _ => by simp [go_sem, execOp, Act.eval]) ?_
  walk_nrm
  refine BesB.value (v := .slice pB2 kB2 cB2) rfl rfl (by decide) (fun _ => by simp [go_sem, execOp, Act.eval]) (fun _ => by simp [go_sem, execOp, Act.eval]) ?_
  walk_nrm
  refine BesB.value (v := .slice pB3 kB3 cB3) rfl rfl (by decide) (fun _ => by simp [go_sem, execOp, Act.eval]) (fun _ => by simp [go_sem, execOp, Act.eval]) ?_
  walk_nrm
  refine BesB.value (v := .slice pB4 kB4 cB4) rfl rfl (by decide) (fun _ => by simp [go_sem, execOp, Act.eval]) (fun _ => by simp [go_sem, execOp, Act.eval]) ?_
  walk_nrm
  refine BesB.call rfl rfl (by decide) rfl Tryd.func11 (by kernel_rfl) (by kernel_rfl) ?_
  walk_nrm
  refine (implOpen_b pB1 pB2 pB3 pB4 kB1 cB1 kB2 cB2 kB3 cB3 kB4 cB4 yB1 yB2 yB3 yB4 C e _ (hg.on k15) (sB1.tee hfB.b1) (sB2.tee hfB.b2) (sB3.tee hfB.b3) (sB4.tee hfB.b4) (by have := hfB.l4; omega)) _ _ _ fun v w16 hv => ?_
  obtain ⟨pry, cry, rfl, ry, b16⟩ := hv
  have k16 : Below W.heap.size W w16 := below_on k15 b16
  have z16 := b16.size
  replace sA1 := sA1.on b16
  replace sA2 := sA2.on b16
  replace sA3 := sA3.on b16
  replace sA4 := sA4.on b16
  replace rg := rg.on b16
  replace rt := rt.on b16
  replace sB1 := sB1.on b16
  replace sB2 := sB2.on b16
  replace sB3 := sB3.on b16
  replace sB4 := sB4.on b16
  rw [Frame.finish_at]
  walk_nrm
  refine BesB.value (v := .tuple #[.slice pry (openN kB1 kB2 kB3 kB4 yB1 yB2 yB3 yB4) cry, .bool (openB kB1 kB2 kB3 kB4 yB1 yB2 yB3 yB4)]) rfl rfl (by decide) (fun _ => by simp [go_sem, execOp, Act.eval]) (fun _ => by simp [go_sem, execOp, Act.eval]) ?_
  walk_nrm
  refine BesB.value (v := .slice pry (openN kB1 kB2 kB3 kB4 yB1 yB2 yB3 yB4) cry) rfl rfl (by decide) (fun _ => by simp [go_sem, execOp, Act.eval]) (fun _ => by simp [go_sem, execOp, Act.eval]) ?_
  walk_nrm
  refine BesB.value (v := .bool (openB kB1 kB2 kB3 kB4 yB1 yB2 yB3 yB4)) rfl rfl (by decide) (fun _ => by simp [go_sem, execOp, Act.eval]) (fun _ => by simp [go_sem, execOp, Act.eval]) ?_
  walk_nrm
  refine BesB.value (v := .slice pry (openN kB1 kB2 kB3 kB4 yB1 yB2 yB3 yB4) cry) rfl rfl (by decide) (fun _ => by simp [go_sem, execOp, Act.eval]) (fun _ => by simp [go_sem, execOp, Act.eval]) ?_
  walk_nrm
  refine BesB.value (v := .bool (openB kB1 kB2 kB3 kB4 yB1 yB2 yB3 yB4)) rfl rfl (by decide) (fun _ => by simp [go_sem, execOp, Act.eval]) (fun _ => by simp [go_sem, execOp, Act.eval]) ?_
  walk_nrm
  refine BesB.ctlG (fun _ => stepG_region_end) ?_
  refine hKK _ _ ?_
  clear hKK KK
  refine BesB.seq fun KK hKK => ?_
  refine BesB.code tameAS rfl rfl (by kernel_rfl) (noFF _) fun K hK θ17 w17 b17 => ?_
  have k17 := below_onr k16 θ17 b17
  have z17 : w16.heap.size ≤ w17.heap.size := b17.size
  replace sA1 := (sA1.ret θ17).on b17
  replace sA2 := (sA2.ret θ17).on b17
  replace sA3 := (sA3.ret θ17).on b17
  replace sA4 := (sA4.ret θ17).on b17
  replace rg := (rg.ret θ17).on b17
  replace rt := (rt.ret θ17).on b17
  replace sB1 := (sB1.ret θ17).on b17
  replace sB2 := (sB2.ret θ17).on b17
  replace sB3 := (sB3.ret θ17).on b17
  replace sB4 := (sB4.ret θ17).on b17
  replace ry := (ry.ret θ17).on b17
  go_wp2_with (fail)
  refine (specOpen_b pB1 pB2 pB3 pB4 kB1 cB1 kB2 cB2 kB3 cB3 kB4 cB4 yB1 yB2 yB3 yB4 _ sB1.len sB2.len sB3.len sB4.len sB4.cap sB1.bytes sB2.bytes sB3.bytes sB4.bytes hfB.b1 hfB.b2 hfB.b3 hfB.b4 (by have := hfB.l4; omega)).mono ?_
  rintro e w18 ⟨pz, cz, rfl, rz, b18⟩
  have k18 : Below (World.ret W θ17).heap.size (World.ret W θ17) w18 := below_on k17 b18
  have z18 := b18.size
  replace sA1 := sA1.on b18
  replace sA2 := sA2.on b18
  replace sA3 := sA3.on b18
  replace sA4 := sA4.on b18
  replace rg := rg.on b18
  replace rt := rt.on b18
  replace ry := ry.on b18
  go_wp2_with (fail)
  intro w19 e19 t19
  have k19 : Below W.heap.size W w19 := e19.below (by first | exact t19 | exact t19.trans k16.tape | exact t19.trans k9.tape) k18
  have z19 := e19.size
  replace sA1 := sA1.like e19
  replace sA2 := sA2.like e19
  replace sA3 := sA3.like e19
  replace sA4 := sA4.like e19
  replace rg := rg.like e19
  replace rt := rt.like e19
  replace ry := ry.like e19
  replace rz := rz.like e19
  refine hKK _ _ ?_
  clear hKK KK
  refine BesB.seq fun KK hKK => ?_
  refine BesB.code tameAS rfl rfl (by kernel_rfl) (noFF _) fun K hK θ20 w20 b20 => ?_
  have k20 := below_onr k19 θ20 b20
  have z20 : w19.heap.size ≤ w20.heap.size := b20.size
  replace sA1 := (sA1.ret θ20).on b20
  replace sA2 := (sA2.ret θ20).on b20
  replace sA3 := (sA3.ret θ20).on b20
  replace sA4 := (sA4.ret θ20).on b20
  replace rg := (rg.ret θ20).on b20
  replace rt := (rt.ret θ20).on b20
  replace ry := (ry.ret θ20).on b20
  replace rz := (rz.ret θ20).on b20
  go_wp2_with (fail)
  refine (dTagText p0 n0 q0 xs0 _ hn0 hx0 (in_below (in_ret h0 θ20) k20) hb0).mono ?_
  rintro e w21 ⟨pT1, kT1, cT1, yT1, pT2, kT2, cT2, yT2, rfl, lT1, lT2, sT1, sT2, bT1, bT2, b21⟩
  have k21 : Below (World.ret W θ20).heap.size (World.ret W θ20) w21 := below_on k20 b21
  have z21 := b21.size
  replace sA1 := sA1.on b21
  replace sA2 := sA2.on b21
  replace sA3 := sA3.on b21
  replace sA4 := sA4.on b21
  replace rg := rg.on b21
  replace rt := rt.on b21
  replace ry := ry.on b21
  replace rz := rz.on b21
  go_wp2_with (fail)
  intro w22 e22 t22
  have k22 : Below W.heap.size W w22 := e22.below (by first | exact t22 | exact t22.trans k19.tape | exact t22.trans k16.tape | exact t22.trans k9.tape) k21
  have z22 := e22.size
  replace sA1 := sA1.like e22
  replace sA2 := sA2.like e22
  replace sA3 := sA3.like e22
  replace sA4 := sA4.like e22
  replace rg := rg.like e22
  replace rt := rt.like e22
  replace ry := ry.like e22
  replace rz := rz.like e22
  replace sT1 := sT1.like e22
  replace sT2 := sT2.like e22
  refine hKK _ _ ?_
  clear hKK KK
  clear CI CS
  have t16 : ((ttN kT1 kT2 : Nat) : Int) % 16 = 0 := by have := ttN_16 kT1 kT2; omega
  refine BesB.seq fun KK hKK => ?_
  refine BesB.code tameAS rfl rfl (by kernel_rfl) (noFF _) fun K hK θ23 w23 b23 => ?_
  have k23 := below_onr k22 θ23 b23
  have z23 : w22.heap.size ≤ w23.heap.size := b23.size
  replace sA1 := (sA1.ret θ23).on b23
  replace sA2 := (sA2.ret θ23).on b23
  replace sA3 := (sA3.ret θ23).on b23
  replace sA4 := (sA4.ret θ23).on b23
  replace rg := (rg.ret θ23).on b23
  replace rt := (rt.ret θ23).on b23
  replace ry := (ry.ret θ23).on b23
  replace rz := (rz.ret θ23).on b23
  replace sT1 := (sT1.ret θ23).on b23
  replace sT2 := (sT2.ret θ23).on b23
  go_wp2_with (fail)
  refine (same_yes pg pt SN SN cg ct SX SX _ rg.len rt.len rg.bytes rt.bytes rfl).mono ?_
  rintro e w24 ⟨rfl, b24⟩
  have k24 : Below (World.ret W θ23).heap.size (World.ret W θ23) w24 := below_on k23 b24
  have z24 := b24.size
  replace sA1 := sA1.on b24
  replace sA2 := sA2.on b24
  replace sA3 := sA3.on b24
  replace sA4 := sA4.on b24
  replace rg := rg.on b24
  replace ry := ry.on b24
  replace rz := rz.on b24
  replace sT1 := sT1.on b24
  replace sT2 := sT2.on b24
  go_wp2_with (fail)
  refine (same_yes pry pz (openN kB1 kB2 kB3 kB4 yB1 yB2 yB3 yB4) (openN kB1 kB2 kB3 kB4 yB1 yB2 yB3 yB4) cry cz (openX kB1 kB2 kB3 kB4 yB1 yB2 yB3 yB4) (openX kB1 kB2 kB3 kB4 yB1 yB2 yB3 yB4) _ ry.len rz.len ry.bytes rz.bytes rfl).mono ?_
  rintro e w25 ⟨rfl, b25⟩
  have k25 : Below (World.ret W θ23).heap.size (World.ret W θ23) w25 := below_on k24 b25
  have z25 := b25.size
  replace sA1 := sA1.on b25
  replace sA2 := sA2.on b25
  replace sA3 := sA3.on b25
  replace sA4 := sA4.on b25
  replace rg := rg.on b25
  replace sT1 := sT1.on b25
  replace sT2 := sT2.on b25
  go_wp2_with (fail)
  refine (implTagText_any pT1 pT2 kT1 kT2 cT1 cT2 yT1 yT2 _ (by omega) (by omega) sT1.len sT2.len sT1.bytes sT2.bytes).mono ?_
  rintro e w26 ⟨pr1, cr1, rfl, r1, b26⟩
  have k26 : Below (World.ret W θ23).heap.size (World.ret W θ23) w26 := below_on k25 b26
  have z26 := b26.size
  replace sA1 := sA1.on b26
  replace sA2 := sA2.on b26
  replace sA3 := sA3.on b26
  replace sA4 := sA4.on b26
  replace rg := rg.on b26
  replace sT1 := sT1.on b26
  replace sT2 := sT2.on b26
  go_wp2_with (fail)
  refine (specTagText_any pT1 pT2 kT1 kT2 cT1 cT2 yT1 yT2 _ (by omega) (by omega) sT1.len sT2.len sT1.bytes sT2.bytes).mono ?_
  rintro e w27 ⟨pr2, cr2, rfl, r2, b27⟩
  have k27 : Below (World.ret W θ23).heap.size (World.ret W θ23) w27 := below_on k26 b27
  have z27 := b27.size
  replace sA1 := sA1.on b27
  replace sA2 := sA2.on b27
  replace sA3 := sA3.on b27
  replace sA4 := sA4.on b27
  replace rg := rg.on b27
  replace sT1 := sT1.on b27
  replace sT2 := sT2.on b27
  replace r1 := r1.on b27
  go_wp2_with (fail)
  refine (same_yes pr1 pr2 (ttN kT1 kT2) (ttN kT1 kT2) cr1 cr2 (ttL yT1 yT2) (ttL yT1 yT2) _ r1.len r2.len r1.bytes r2.bytes rfl).mono ?_
  rintro e w28 ⟨rfl, b28⟩
  have k28 : Below (World.ret W θ23).heap.size (World.ret W θ23) w28 := below_on k27 b28
  have z28 := b28.size
  replace sA1 := sA1.on b28
  replace sA2 := sA2.on b28
  replace sA3 := sA3.on b28
  replace sA4 := sA4.on b28
  replace rg := rg.on b28
  replace sT1 := sT1.on b28
  replace sT2 := sT2.on b28
  go_wp2_with (fail)
  refine (implTagText_any pT1 pT2 kT1 kT2 cT1 cT2 yT1 yT2 _ (by omega) (by omega) sT1.len sT2.len sT1.bytes sT2.bytes).mono ?_
  rintro e w29 ⟨pr3, cr3, rfl, r3, b29⟩
  have k29 : Below (World.ret W θ23).heap.size (World.ret W θ23) w29 := below_on k28 b29
  have z29 := b29.size
  replace sA1 := sA1.on b29
  replace sA2 := sA2.on b29
  replace sA3 := sA3.on b29
  replace sA4 := sA4.on b29
  replace rg := rg.on b29
  go_wp2_with (fail)
  intro w30 e30 t30
  have k30 : Below W.heap.size W w30 := e30.below (by first | exact t30 | exact t30.trans k22.tape | exact t30.trans k16.tape | exact t30.trans k9.tape) k29
  have z30 := e30.size
  replace sA1 := sA1.like e30
  replace sA2 := sA2.like e30
  replace sA3 := sA3.like e30
  replace sA4 := sA4.like e30
  replace rg := rg.like e30
  refine hKK _ _ ?_
  clear hKK KK
  rcases hcase with ⟨hok, rfl, rfl, rfl⟩ | ⟨rfl, rfl⟩
  rotate_left
  · refine BesB.ctlG (fun _ => stepG_seq) ?_
    refine BesB.ctlG (fun _ => stepG_seq) ?_
    refine BesB.ctlG (fun _ => stepG_region) ?_
    refine BesB.value (v := .bool false) rfl rfl (by decide) (fun _ => by simp [go_sem, execOp, Act.eval]) (fun _ => by simp [go_sem, execOp, Act.eval]) ?_
    walk_nrm
    refine BesB.value (v := .bool true) rfl rfl (by decide) (fun _ => by simp [go_sem, execOp, Act.eval, Op.unary]) (fun _ => by simp [go_sem, execOp, Act.eval, Op.unary]) ?_
    walk_nrm
    refine BesB.ctlG (fun _ => stepG_region_end) ?_
    refine BesB.cond true rfl ?_
    simp only [reduceIte]
    refine BesB.ctlG (fun _ => stepG_seq) ?_
    refine BesB.ctlG (fun _ => stepG_region) ?_
    refine BesB.value (v := .slice pg 0 cg) rfl rfl (by decide) (fun _ => by simp [go_sem, execOp, Act.eval]) (fun _ => by simp [go_sem, execOp, Act.eval]) ?_
    walk_nrm
    refine BesB.value (v := .int .i64 ((0 : Nat) : Int)) rfl rfl (by decide) (fun _ => by simp [go_sem, execOp, Act.eval]) (fun _ => by simp [go_sem, execOp, Act.eval]) ?_
    walk_nrm
    refine BesB.value (v := .bool true) rfl rfl (by decide) (fun _ => by simp [go_sem, execOp, Act.eval]) (fun _ => by simp [go_sem, execOp, Act.eval]) ?_
    walk_nrm
    refine BesB.value (v := .bool true) rfl rfl (by decide) (fun _ => by simp [go_sem, execOp, Act.eval]) (fun _ => by simp [go_sem, execOp, Act.eval]) ?_
    walk_nrm
    refine BesB.ctlG (fun _ => stepG_region_end) ?_
    refine BesB.ctlG (fun _ => stepG_ret') ?_
    exact fun w1 _ hl => .now ⟨_, rfl, rfl, rfl, rfl, rfl, rfl, below_lay (below_on k30 hl)⟩
  obtain ⟨rfl, rfl, hok3, hA4l⟩ := hok
  have hA4i : (kA4 : Int) ≤ 1500 := by omega
  refine BesB.seq fun KK hKK => ?_
  refine BesB.code tameAS rfl rfl (by kernel_rfl) (noFF _) fun K hK θ31 w31 b31 => ?_
  have k31 := below_onr k30 θ31 b31
  have z31 : w30.heap.size ≤ w31.heap.size := b31.size
  replace sA1 := (sA1.ret θ31).on b31
  replace sA2 := (sA2.ret θ31).on b31
  replace sA3 := (sA3.ret θ31).on b31
  replace sA4 := (sA4.ret θ31).on b31
  replace rg := (rg.ret θ31).on b31
  go_wp2_with (fail)
  intro w32 e32 t32
  have k32 : Below W.heap.size W w32 := e32.below (by first | exact t32 | exact t32.trans k30.tape | exact t32.trans k16.tape | exact t32.trans k9.tape) k31
  have z32 := e32.size
  replace sA1 := sA1.like e32
  replace sA2 := sA2.like e32
  replace sA3 := sA3.like e32
  replace sA4 := sA4.like e32
  replace rg := rg.like e32
  refine hKK _ _ ?_
  clear hKK KK
  refine BesB.seq fun KK hKK => ?_
  refine BesB.ctlG (fun _ => stepG_region) ?_
  refine BesB.value (v := .slice pA1 32 cA1) rfl rfl (by decide) (fun _ => by simp [go_sem, execOp, Act.eval]) (fun _ => by simp [go_sem, execOp, Act.eval]) ?_
  walk_nrm
  refine BesB.value (v := .slice pA2 12 cA2) rfl rfl (by decide) (fun _ => by simp [go_sem, execOp, Act.eval]) (fun _ => by simp [go_sem, execOp, Act.eval]) ?_
  walk_nrm
  refine BesB.value (v := .slice pA3 kA3 cA3) rfl rfl (by decide) (fun _ => by simp [go_sem, execOp, Act.eval]) (fun _ => by simp [go_sem, execOp, Act.eval]) ?_
  walk_nrm
  refine BesB.value (v := .slice pg (kA4 + 16) cg) rfl rfl (by decide) (fun _ => by simp [go_sem, execOp, Act.eval]) (fun _ => by simp [go_sem, execOp, Act.eval]) ?_
  walk_nrm
  refine BesB.call rfl rfl (by decide) rfl Tryd.func11 (by kernel_rfl) (by kernel_rfl) ?_
  walk_nrm
  obtain ⟨eN, eB, eX⟩ := seal_opens_x (AS := yA3) ⟨rfl, rfl, hok3, hA4l⟩ hA1 hA2 hA4 hfA.b4
  have CO := implOpen_b pA1 pA2 pA3 pg 32 cA1 12 cA2 kA3 cA3 (kA4 + 16) cg yA1 yA2 yA3 (seaL yA1 yA2 yA3 yA4) C e _ (hg.on k32) (sA1.tee hfA.b1) (sA2.tee hfA.b2) (sA3.tee hfA.b3) (rg.tee hSX) (by omega)
  rw [eN, eB, eX] at CO
  refine (CO) _ _ _ fun v w33 hv => ?_
  obtain ⟨pk, ck, rfl, rk, b33⟩ := hv
  have k33 : Below W.heap.size W w33 := below_on k32 b33
  have z33 := b33.size
  replace sA1 := sA1.on b33
  replace sA2 := sA2.on b33
  replace sA3 := sA3.on b33
  replace sA4 := sA4.on b33
  replace rg := rg.on b33
  clear CO eN eB eX
  rw [Frame.finish_at]
  walk_nrm
  refine BesB.value (v := .tuple #[.slice pk kA4 ck, .bool true]) rfl rfl (by decide) (fun _ => by simp [go_sem, execOp, Act.eval]) (fun _ => by simp [go_sem, execOp, Act.eval]) ?_
  walk_nrm
  refine BesB.value (v := .slice pk kA4 ck) rfl rfl (by decide) (fun _ => by simp [go_sem, execOp, Act.eval]) (fun _ => by simp [go_sem, execOp, Act.eval]) ?_
  walk_nrm
  refine BesB.value (v := .bool true) rfl rfl (by decide) (fun _ => by simp [go_sem, execOp, Act.eval]) (fun _ => by simp [go_sem, execOp, Act.eval]) ?_
  walk_nrm
  refine BesB.value (v := .slice pk kA4 ck) rfl rfl (by decide) (fun _ => by simp [go_sem, execOp, Act.eval]) (fun _ => by simp [go_sem, execOp, Act.eval]) ?_
  walk_nrm
  refine BesB.value (v := .bool true) rfl rfl (by decide) (fun _ => by simp [go_sem, execOp, Act.eval]) (fun _ => by simp [go_sem, execOp, Act.eval]) ?_
  walk_nrm
  refine BesB.ctlG (fun _ => stepG_region_end) ?_
  refine hKK _ _ ?_
  clear hKK KK
  refine BesB.seq fun KK hKK => ?_
  refine BesB.code tameAS rfl rfl (by kernel_rfl) (noFF _) fun K hK θ34 w34 b34 => ?_
  have k34 := below_onr k33 θ34 b34
  have z34 : w33.heap.size ≤ w34.heap.size := b34.size
  replace sA1 := (sA1.ret θ34).on b34
  replace sA2 := (sA2.ret θ34).on b34
  replace sA3 := (sA3.ret θ34).on b34
  replace sA4 := (sA4.ret θ34).on b34
  replace rg := (rg.ret θ34).on b34
  replace rk := (rk.ret θ34).on b34
  obtain ⟨i0, hi, hz0, hz1, hz2⟩ := info_parts infoByte
  have hown0 : (w34.alloc (.cells #[] 5)).ownsRow w34.heap.size 5 1 (.slice (some ⟨w34.heap.size, 0, none⟩) 0 0) 0 (([] : List Int).map (Value.int .u8)) := World.ownsRow_made w34 #[] 0 (Nat.le_refl _) (by unfold maxLen; omega) rfl
  have hb0m : Below w34.heap.size w34 (w34.alloc (.cells #[] 5)) := (Below.refl _ _).alloc (Nat.le_refl _) _
  have ig := in_below rg.bytes hb0m
  go_wp2_with (at_builtin; refine list_spreadA hi hz0 hz1 hz2 (.tmp 133) (.tmp 134) 22 Tryd.underlying22 hown0 ig rg.len (by omega) (by omega) hb0m.size (by rfl) (by rfl) (by rfl) (by rfl) ?_; intro pe ce w35 re0 be0; simp only [Nat.zero_add, List.nil_append] at re0 ⊢)
  have b35 := hb0m.trans be0
  have re : Own 5 w35 w34.heap.size w35.heap.size (.slice pe (kA4 + 16) ce) (kA4 + 16) (seaL yA1 yA2 yA3 yA4) := .of re0
  clear re0 be0 hown0 hb0m ig
  have k35 : Below (World.ret W θ34).heap.size (World.ret W θ34) w35 := below_on k34 b35
  have z35 := b35.size
  replace sA1 := sA1.on b35
  replace sA2 := sA2.on b35
  replace sA3 := sA3.on b35
  replace sA4 := sA4.on b35
  replace rg := rg.on b35
  replace rk := rk.on b35
  intro w36 e36 t36
  have k36 : Below W.heap.size W w36 := e36.below (by first | exact t36 | exact t36.trans k33.tape | exact t36.trans k16.tape | exact t36.trans k9.tape) k35
  have z36 := e36.size
  replace sA1 := sA1.like e36
  replace sA2 := sA2.like e36
  replace sA3 := sA3.like e36
  replace sA4 := sA4.like e36
  replace rg := rg.like e36
  replace rk := rk.like e36
  replace re := re.like e36
  refine hKK _ _ ?_
  clear hKK KK
  refine BesB.seq fun KK hKK => ?_
  refine BesB.code tameAS rfl rfl (by kernel_rfl) (noFF _) fun K hK θ37 w37 b37 => ?_
  have k37 := below_onr k36 θ37 b37
  have z37 : w36.heap.size ≤ w37.heap.size := b37.size
  replace sA1 := (sA1.ret θ37).on b37
  replace sA2 := (sA2.ret θ37).on b37
  replace sA3 := (sA3.ret θ37).on b37
  replace sA4 := (sA4.ret θ37).on b37
  replace rg := (rg.ret θ37).on b37
  replace rk := (rk.ret θ37).on b37
  replace re := (re.ret θ37).on b37
  go_wp2_with (fail)
  refine (at_is p0 n0 q0 xs0 1 _ hn0 (by omega) (in_below (in_ret h0 θ37) k37) hb0).mono ?_
  rintro e w38 ⟨rfl, b38⟩
  have k38 : Below (World.ret W θ37).heap.size (World.ret W θ37) w38 := below_on k37 b38
  have z38 := b38.size
  replace sA1 := sA1.on b38
  replace sA2 := sA2.on b38
  replace sA3 := sA3.on b38
  replace sA4 := sA4.on b38
  replace rg := rg.on b38
  replace rk := rk.on b38
  replace re := re.on b38
  have hz1v := atV_byte n0 1 hb0
  obtain ⟨I, hI, eI⟩ : ∃ I : Nat, I < 16 ∧ Int.tmod (atV xs0 n0 1) 16 = (I : Int) := ⟨(atV xs0 n0 1 % 16).toNat, by omega, by rw [Int.tmod_eq_emod_of_nonneg hz1v.1]; omega⟩
  obtain ⟨J, hJ, eJ⟩ : ∃ J : Nat, J = kA4 + I ∧ (kA4 : Int) + (I : Int) = (J : Int) := ⟨_, rfl, by omega⟩
  have hJl : (J : Int) ≤ 1600 := by omega
  replace hJ : Hid (J = kA4 + I) := hJ
  go_wp2_with (fail)
  intro w39 e39 t39
  have k39 : Below W.heap.size W w39 := e39.below (by first | exact t39 | exact t39.trans k36.tape | exact t39.trans k33.tape | exact t39.trans k16.tape | exact t39.trans k9.tape) k38
  have z39 := e39.size
  replace sA1 := sA1.like e39
  replace sA2 := sA2.like e39
  replace sA3 := sA3.like e39
  replace sA4 := sA4.like e39
  replace rg := rg.like e39
  replace rk := rk.like e39
  replace re := re.like e39
  refine hKK _ _ ?_
  clear hKK KK
  obtain ⟨ge, rfl⟩ := own_some re (by omega)
  obtain ⟨u, hu⟩ : ∃ u, (seaL yA1 yA2 yA3 yA4)[J]? = some u := ⟨_, List.getElem?_eq_getElem (by rw [re.len]; have := hJ.out; omega)⟩
  refine BesB.seq fun KK hKK => ?_
  refine BesB.code tameAS rfl rfl (by kernel_rfl) (noFF _) fun K hK θ40 w40 b40 => ?_
  have k40 := below_onr k39 θ40 b40
  have z40 : w39.heap.size ≤ w40.heap.size := b40.size
  replace sA1 := (sA1.ret θ40).on b40
  replace sA2 := (sA2.ret θ40).on b40
  replace sA3 := (sA3.ret θ40).on b40
  replace sA4 := (sA4.ret θ40).on b40
  replace rg := (rg.ret θ40).on b40
  replace rk := (rk.ret θ40).on b40
  replace re := (re.ret θ40).on b40
  have eC : w40.cell? ⟨ge, J, none⟩ = some (.int .u8 u) := by
    rw [re.1.cellAt J (by have := hJ.out; omega), List.getElem?_map, hu]
    rfl
  have eK : ∀ X, Below w40.heap.size w40 X → X.cell? ⟨ge, J, none⟩ = some (.int .u8 u) := fun X hX => by
    rw [(re.on hX).1.cellAt J (by have := hJ.out; omega), List.getElem?_map, hu]
    rfl
  have eF := re.1.frozenAt J
  have hJ2 : (J : Int) < ((kA4 + 16 : Nat) : Int) := by have := hJ.out; omega
  have hJ3 : (J : Int) < (kA4 : Int) + 16 := by omega
  have CA := fun (X : World) (hX : Below w40.heap.size w40 X) => at_is p0 n0 q0 xs0 2 X hn0 (by omega) (in_below (in_below (in_ret h0 θ40) k40) hX) hb0
  have hz2v := atV_byte n0 2 hb0
  obtain ⟨Z, hZ1, hZ2, eZ⟩ : ∃ Z : Int, 0 ≤ Z ∧ Z ≤ 254 ∧ Int.tmod (atV xs0 n0 2) 255 = Z := ⟨atV xs0 n0 2 % 255, by omega, by omega, Int.tmod_eq_emod_of_nonneg hz2v.1⟩
  go_wp2_with (fail)
  refine wp_region_noPanic ?_
  refine wp_region_K 13 (fun X => X.cell? ⟨ge, J, none⟩ = some (.int .u8 u)) (by kernel_rfl) ?_
  have hHeld := eK _ (below_drewS (Below.refl _ _))
  refine anyK_take (i := 0) (v := .slice (some ⟨ge, 0, none⟩) (kA4 + 16) ce) rfl rfl (by kernel_rfl) (by kernel_rfl) (by kernel_rfl) (by kernel_rfl) (by kernel_rfl) (fun _ _ _ h => h) (Or.inl ⟨by rfl, fun w hSw => by ((try dsimp only at hSw); go_simp)⟩) hHeld ?_
  try walk_nrm
  refine anyK_take (i := 1) (v := .int .i64 (J : Int)) rfl rfl (by kernel_rfl) (by kernel_rfl) (by kernel_rfl) (by kernel_rfl) (by kernel_rfl) (fun _ _ _ h => h) (Or.inl ⟨by rfl, fun w hSw => by ((try dsimp only at hSw); go_simp)⟩) hHeld ?_
  try walk_nrm
  refine anyK_take (i := 2) (v := .slice (some ⟨ge, 0, none⟩) (kA4 + 16) ce) rfl rfl (by kernel_rfl) (by kernel_rfl) (by kernel_rfl) (by kernel_rfl) (by kernel_rfl) (fun _ _ _ h => h) (Or.inl ⟨by rfl, fun w hSw => by ((try dsimp only at hSw); go_simp)⟩) hHeld ?_
  try walk_nrm
  refine anyK_take (i := 3) (v := .int .i64 (J : Int)) rfl rfl (by kernel_rfl) (by kernel_rfl) (by kernel_rfl) (by kernel_rfl) (by kernel_rfl) (fun _ _ _ h => h) (Or.inl ⟨by rfl, fun w hSw => by ((try dsimp only at hSw); go_simp)⟩) hHeld ?_
  try walk_nrm
  refine anyK_take (i := 4) (v := .pointer (some ⟨ge, J, none⟩)) rfl rfl (by kernel_rfl) (by kernel_rfl) (by kernel_rfl) (by kernel_rfl) (by kernel_rfl) (fun _ _ _ h => h) (Or.inl ⟨by rfl, fun w hSw => by ((try dsimp only at hSw); go_simp)⟩) hHeld ?_
  try walk_nrm
  refine anyK_take (i := 5) (v := .int .u8 u) rfl rfl (by kernel_rfl) (by kernel_rfl) (by kernel_rfl) (by kernel_rfl) (by kernel_rfl) (fun _ _ _ h => h) (Or.inl ⟨by rfl, fun w hSw => by ((try dsimp only at hSw); go_simp)⟩) hHeld ?_
  try walk_nrm
  refine anyK_take (i := 6) (v := .slice p0 n0 q0) rfl rfl (by kernel_rfl) (by kernel_rfl) (by kernel_rfl) (by kernel_rfl) (by kernel_rfl) (fun _ _ _ h => h) (Or.inl ⟨by rfl, fun w hSw => by ((try dsimp only at hSw); go_simp)⟩) hHeld ?_
  try walk_nrm
  refine anyK_one (i := 7) (by kernel_rfl) rfl (fun K hK => ?_)
  go_simp
  refine (CA _ (below_drewS (Below.refl _ _))).mono ?_
  rintro ex w41 ⟨rfl, b41'⟩
  have b41 := below_on (below_drewS (Below.refl w40.heap.size w40)) b41'
  go_wp2_with (fail)
  refine hK.out _ _ (fun _ => eK _ b41) ?_
  clear hK K
  have hHeld9 := eK _ b41
  try walk_nrm
  refine anyK_take (i := 8) (v := .int .i64 Z) rfl rfl (by kernel_rfl) (by kernel_rfl) (by kernel_rfl) (by kernel_rfl) (by kernel_rfl) (fun _ _ _ h => h) (Or.inl ⟨by rfl, fun w hSw => by ((try dsimp only at hSw); go_simp)⟩) hHeld9 ?_
  try walk_nrm
  refine anyK_take (i := 9) (v := .int .i64 (IntKind.i64.wrap (1 + Z))) rfl rfl (by kernel_rfl) (by kernel_rfl) (by kernel_rfl) (by kernel_rfl) (by kernel_rfl) (fun _ _ _ h => h) (Or.inl ⟨by rfl, fun w hSw => by ((try dsimp only at hSw); go_simp)⟩) hHeld9 ?_
  try walk_nrm
  refine anyK_take (i := 10) (v := .int .u8 (IntKind.u8.wrap (IntKind.i64.wrap (1 + Z)))) rfl rfl (by kernel_rfl) (by kernel_rfl) (by kernel_rfl) (by kernel_rfl) (by kernel_rfl) (fun _ _ _ h => h) (Or.inl ⟨by rfl, fun w hSw => by ((try dsimp only at hSw); go_simp)⟩) hHeld9 ?_
  try walk_nrm
  refine anyK_take (i := 11) (v := .int .u8 (bits .xor .u8 u (IntKind.u8.wrap (IntKind.i64.wrap (1 + Z))))) rfl rfl (by kernel_rfl) (by kernel_rfl) (by kernel_rfl) (by kernel_rfl) (by kernel_rfl) (fun _ _ _ h => h) (Or.inl ⟨by rfl, fun w hSw => by ((try dsimp only at hSw); go_simp)⟩) hHeld9 ?_
  try walk_nrm
  refine anyK_take (i := 12) (v := .pointer (some ⟨ge, J, none⟩)) rfl rfl (by kernel_rfl) (by kernel_rfl) (by kernel_rfl) (by kernel_rfl) (by kernel_rfl) (fun _ _ _ h => h) (Or.inl ⟨by rfl, fun w hSw => by ((try dsimp only at hSw); go_simp)⟩) hHeld9 ?_
  try walk_nrm
  have k41 : Below (World.ret W θ40).heap.size (World.ret W θ40) w41 := below_on k40 b41
  have z41 := b41.size
  replace sA1 := sA1.on b41
  replace sA2 := sA2.on b41
  replace sA3 := sA3.on b41
  replace sA4 := sA4.on b41
  replace rg := rg.on b41
  replace rk := rk.on b41
  replace re := re.on b41
  have eFq := re.1.frozenAt J
  have st := re.1.stored J (.int .u8 (bits .xor .u8 u (IntKind.u8.wrap (IntKind.i64.wrap (1 + Z)))))
  rw [← List.map_set (f := Value.int .u8)] at st
  refine anyK_one (i := 13) (by kernel_rfl) rfl (fun K hK => ?_)
  go_simp
  refine hK.out _ _ (fun h => by cases h) ?_
  clear hK K
  refine anyK_done (by kernel_rfl) ?_ _
  refine NoPanic.normal ?_
  obtain ⟨Y, hY1, hY2, eY⟩ : ∃ Y : Int, 1 ≤ Y ∧ Y < 256 ∧ IntKind.u8.wrap (IntKind.i64.wrap (1 + Z)) = Y := by
    have e1 : IntKind.i64.wrap (1 + Z) = 1 + Z := by rw [IntKind.wrap_i64]; omega
    have e2 := wrap_u8 (1 + Z).toNat (by omega)
    rw [show (((1 + Z).toNat : Nat) : Int) = 1 + Z by omega] at e2
    exact ⟨1 + Z, by omega, by omega, by rw [e1, e2]⟩
  rw [eY] at st ⊢
  have hVne := xor_other (x := u) hY1 hY2
  have hVb : 0 ≤ bits .xor .u8 u Y ∧ bits .xor .u8 u Y < 256 := by
    simp only [bits, IntKind.wrap, IntKind.bits, IntKind.signed]
    exact ⟨by simp; omega, by simp; omega⟩
  generalize bits .xor .u8 u Y = V at st hVne hVb ⊢
  obtain ⟨w42, hw42⟩ : ∃ X, X = w41.setCell ⟨ge, J, none⟩ (.int .u8 V) := ⟨_, rfl⟩
  rw [← hw42] at st ⊢
  clear hw42 eY eC eF eK eFq CA hHeld hHeld9
  obtain ⟨m42, g42⟩ := st
  have k42 : Below (World.ret W θ40).heap.size (World.ret W θ40) w42 := below_mark (u := .slice (some ⟨ge, 0, none⟩) (kA4 + 16) ce) k41 g42 re (by show W.heap.size ≤ _; omega)
  have z42 := g42.size
  replace sA1 := sA1.far (u := .slice (some ⟨ge, 0, none⟩) (kA4 + 16) ce) g42 re (by omega)
  replace sA2 := sA2.far (u := .slice (some ⟨ge, 0, none⟩) (kA4 + 16) ce) g42 re (by omega)
  replace sA3 := sA3.far (u := .slice (some ⟨ge, 0, none⟩) (kA4 + 16) ce) g42 re (by omega)
  replace sA4 := sA4.far (u := .slice (some ⟨ge, 0, none⟩) (kA4 + 16) ce) g42 re (by omega)
  replace rg := rg.far (u := .slice (some ⟨ge, 0, none⟩) (kA4 + 16) ce) g42 re (by omega)
  replace rk := rk.far (u := .slice (some ⟨ge, 0, none⟩) (kA4 + 16) ce) g42 re (by omega)
  have rf : Own 5 w42 w34.heap.size w42.heap.size (.slice (some ⟨ge, 0, none⟩) (kA4 + 16) ce) (kA4 + 16) ((seaL yA1 yA2 yA3 yA4).set J V) := .of m42
  clear re m42 g42
  go_wp2_with (fail)
  intro w43 e43 t43
  have k43 : Below W.heap.size W w43 := e43.below (by first | exact t43 | exact t43.trans k39.tape | exact t43.trans k33.tape | exact t43.trans k16.tape | exact t43.trans k9.tape) k42
  have z43 := e43.size
  replace sA1 := sA1.like e43
  replace sA2 := sA2.like e43
  replace sA3 := sA3.like e43
  replace sA4 := sA4.like e43
  replace rg := rg.like e43
  replace rk := rk.like e43
  replace rf := rf.like e43
  refine hKK _ _ ?_
  clear hKK KK
  have hSX2 : ∀ x ∈ (seaL yA1 yA2 yA3 yA4).set J V, 0 ≤ x ∧ x < 256 := fun y hy => by
    rcases List.mem_or_eq_of_mem_set hy with h | h
    · exact hSX y h
    · rw [h]; exact hVb
  have hNO : ¬ OpenOk 32 12 kA3 (kA4 + 16) yA1 yA2 yA3 ((seaL yA1 yA2 yA3 yA4).set J V) := by
    rw [hJ.out]
    refine bent_no I V hA4 hI rg.len fun h => ?_
    rw [← hJ.out, hu] at h
    exact hVne (Option.some.inj h).symm
  refine BesB.seq fun KK hKK => ?_
  refine BesB.ctlG (fun _ => stepG_region) ?_
  refine BesB.value (v := .slice pA1 32 cA1) rfl rfl (by decide) (fun _ => by simp [go_sem, execOp, Act.eval]) (fun _ => by simp [go_sem, execOp, Act.eval]) ?_
  walk_nrm
  refine BesB.value (v := .slice pA2 12 cA2) rfl rfl (by decide) (fun _ => by simp [go_sem, execOp, Act.eval]) (fun _ => by simp [go_sem, execOp, Act.eval]) ?_
  walk_nrm
  refine BesB.value (v := .slice pA3 kA3 cA3) rfl rfl (by decide) (fun _ => by simp [go_sem, execOp, Act.eval]) (fun _ => by simp [go_sem, execOp, Act.eval]) ?_
  walk_nrm
  refine BesB.value (v := .slice (some ⟨ge, 0, none⟩) (kA4 + 16) ce) rfl rfl (by decide) (fun _ => by simp [go_sem, execOp, Act.eval]) (fun _ => by simp [go_sem, execOp, Act.eval]) ?_
  walk_nrm
  refine BesB.call rfl rfl (by decide) rfl Tryd.func11 (by kernel_rfl) (by kernel_rfl) ?_
  walk_nrm
  obtain ⟨eN, eB, eX⟩ := open_no hNO
  have CO := implOpen_b pA1 pA2 pA3 (some ⟨ge, 0, none⟩) 32 cA1 12 cA2 kA3 cA3 (kA4 + 16) ce yA1 yA2 yA3 ((seaL yA1 yA2 yA3 yA4).set J V) C e _ (hg.on k43) (sA1.tee hfA.b1) (sA2.tee hfA.b2) (sA3.tee hfA.b3) (rf.tee hSX2) (by omega)
  rw [eN, eB, eX] at CO
  refine (CO) _ _ _ fun v w44 hv => ?_
  obtain ⟨pn, cn, rfl, rn, b44⟩ := hv
  have k44 : Below W.heap.size W w44 := below_on k43 b44
  have z44 := b44.size
  replace sA1 := sA1.on b44
  replace sA2 := sA2.on b44
  replace sA3 := sA3.on b44
  replace sA4 := sA4.on b44
  replace rg := rg.on b44
  replace rk := rk.on b44
  clear CO eN eB eX
  rw [Frame.finish_at]
  walk_nrm
  refine BesB.value (v := .tuple #[.slice pn 0 cn, .bool false]) rfl rfl (by decide) (fun _ => by simp [go_sem, execOp, Act.eval]) (fun _ => by simp [go_sem, execOp, Act.eval]) ?_
  walk_nrm
  refine BesB.value (v := .slice pn 0 cn) rfl rfl (by decide) (fun _ => by simp [go_sem, execOp, Act.eval]) (fun _ => by simp [go_sem, execOp, Act.eval]) ?_
  walk_nrm
  refine BesB.value (v := .bool false) rfl rfl (by decide) (fun _ => by simp [go_sem, execOp, Act.eval]) (fun _ => by simp [go_sem, execOp, Act.eval]) ?_
  walk_nrm
  refine BesB.value (v := .slice pn 0 cn) rfl rfl (by decide) (fun _ => by simp [go_sem, execOp, Act.eval]) (fun _ => by simp [go_sem, execOp, Act.eval]) ?_
  walk_nrm
  refine BesB.value (v := .bool false) rfl rfl (by decide) (fun _ => by simp [go_sem, execOp, Act.eval]) (fun _ => by simp [go_sem, execOp, Act.eval]) ?_
  walk_nrm
  refine BesB.ctlG (fun _ => stepG_region_end) ?_
  refine hKK _ _ ?_
  clear hKK KK
  obtain ⟨gs, rfl⟩ := own_some rg (by omega)
  have hcg : ¬ cg = kA4 + 1 := by have := rg.cap; omega
  have h0k : (0 : Int) ≤ (kA4 : Int) + 1 := by omega
  have hlS : ((kA4 + 16 : Nat) : Int) - 15 = ((kA4 + 1 : Nat) : Int) := by omega
  have tS : BytesT w44 (some ⟨gs, 0 + (kA4 + 1), none⟩) 15 (cg - (kA4 + 1)) ((seaL yA1 yA2 yA3 yA4).drop (kA4 + 1)) := by
    have := (rg.tee hSX).after (kA4 + 1) (by omega)
    rwa [show kA4 + 16 - (kA4 + 1) = 15 by omega] at this
  refine BesB.seq fun KK hKK => ?_
  refine BesB.ctlG (fun _ => stepG_region) ?_
  refine BesB.value (v := .slice pA1 32 cA1) rfl rfl (by decide) (fun _ => by simp [go_sem, execOp, Act.eval]) (fun _ => by simp [go_sem, execOp, Act.eval]) ?_
  walk_nrm
  refine BesB.value (v := .slice pA2 12 cA2) rfl rfl (by decide) (fun _ => by simp [go_sem, execOp, Act.eval]) (fun _ => by simp [go_sem, execOp, Act.eval]) ?_
  walk_nrm
  refine BesB.value (v := .slice pA3 kA3 cA3) rfl rfl (by decide) (fun _ => by simp [go_sem, execOp, Act.eval]) (fun _ => by simp [go_sem, execOp, Act.eval]) ?_
  walk_nrm
  refine BesB.value (v := .slice (some ⟨gs, 0, none⟩) (kA4 + 16) cg) rfl rfl (by decide) (fun _ => by simp [go_sem, execOp, Act.eval]) (fun _ => by simp [go_sem, execOp, Act.eval]) ?_
  walk_nrm
  refine BesB.value (v := .slice (some ⟨gs, 0, none⟩) (kA4 + 16) cg) rfl rfl (by decide) (fun _ => by simp [go_sem, execOp, Act.eval]) (fun _ => by simp [go_sem, execOp, Act.eval]) ?_
  walk_nrm
  refine BesB.value (v := .int .i64 ((kA4 + 16 : Nat) : Int)) rfl rfl (by decide) (fun _ => by simp [go_sem, execOp, Act.eval]) (fun _ => by simp [go_sem, execOp, Act.eval]) ?_
  walk_nrm
  refine BesB.value (v := .int .i64 ((kA4 + 1 : Nat) : Int)) rfl rfl (by decide) (fun _ => by simp [go_sem, execOp, Act.eval] <;> (first | omega | (rw [IntKind.wrap_i64]; omega))) (fun _ => by simp [go_sem, execOp, Act.eval]) ?_
  walk_nrm
  refine BesB.value (v := .slice (some ⟨gs, 0 + (kA4 + 1), none⟩) 15 (cg - (kA4 + 1))) rfl rfl (by decide) (fun w => by simp [go_sem, execOp, Act.eval, hcg, h0k]) (fun w => by have := ev_cut gs 0 (kA4 + 16) cg (kA4 + 1) (by omega) w; simp [go_sem, execOp, Act.eval]; simpa using this) ?_
  walk_nrm
  refine BesB.call rfl rfl (by decide) rfl Tryd.func11 (by kernel_rfl) (by kernel_rfl) ?_
  walk_nrm
  obtain ⟨eN, eB, eX⟩ := open_no (short_no (kn := 32) (nn := 12) (an := kA3) (KS := yA1) (NS := yA2) (AS := yA3) (XS := (seaL yA1 yA2 yA3 yA4).drop (kA4 + 1)))
  have CO := implOpen_b pA1 pA2 pA3 (some ⟨gs, 0 + (kA4 + 1), none⟩) 32 cA1 12 cA2 kA3 cA3 15 (cg - (kA4 + 1)) yA1 yA2 yA3 ((seaL yA1 yA2 yA3 yA4).drop (kA4 + 1)) C e _ (hg.on k44) (sA1.tee hfA.b1) (sA2.tee hfA.b2) (sA3.tee hfA.b3) tS (by omega)
  rw [eN, eB, eX] at CO
  clear tS hcg h0k hlS
  refine (CO) _ _ _ fun v w45 hv => ?_
  obtain ⟨ps, cs, rfl, rs, b45⟩ := hv
  have k45 : Below W.heap.size W w45 := below_on k44 b45
  have z45 := b45.size
  replace sA4 := sA4.on b45
  replace rk := rk.on b45
  clear CO eN eB eX rs
  rw [Frame.finish_at]
  walk_nrm
  refine BesB.value (v := .tuple #[.slice ps 0 cs, .bool false]) rfl rfl (by decide) (fun _ => by simp [go_sem, execOp, Act.eval]) (fun _ => by simp [go_sem, execOp, Act.eval]) ?_
  walk_nrm
  refine BesB.value (v := .slice ps 0 cs) rfl rfl (by decide) (fun _ => by simp [go_sem, execOp, Act.eval]) (fun _ => by simp [go_sem, execOp, Act.eval]) ?_
  walk_nrm
  refine BesB.value (v := .bool false) rfl rfl (by decide) (fun _ => by simp [go_sem, execOp, Act.eval]) (fun _ => by simp [go_sem, execOp, Act.eval]) ?_
  walk_nrm
  refine BesB.value (v := .slice ps 0 cs) rfl rfl (by decide) (fun _ => by simp [go_sem, execOp, Act.eval]) (fun _ => by simp [go_sem, execOp, Act.eval]) ?_
  walk_nrm
  refine BesB.value (v := .bool false) rfl rfl (by decide) (fun _ => by simp [go_sem, execOp, Act.eval]) (fun _ => by simp [go_sem, execOp, Act.eval]) ?_
  walk_nrm
  refine BesB.ctlG (fun _ => stepG_region_end) ?_
  refine hKK _ _ ?_
  clear hKK KK
  have hL : ((kA4 + 16 : Nat) : Int) = (kA4 : Int) + 16 := by omega
  refine BesB.seq fun KK hKK => ?_
  refine BesB.code tameAS rfl rfl (by kernel_rfl) (noFF _) fun K hK θ46 w46 b46 => ?_
  have k46 := below_onr k45 θ46 b46
  have z46 : w45.heap.size ≤ w46.heap.size := b46.size
  replace sA4 := (sA4.ret θ46).on b46
  replace rk := (rk.ret θ46).on b46
  go_wp2_with (fail)
  refine (same_yes pk pA4 kA4 kA4 ck cA4 yA4 yA4 _ rk.len sA4.len rk.bytes sA4.bytes rfl).mono ?_
  rintro e w47 ⟨rfl, b47⟩
  have k47 : Below (World.ret W θ46).heap.size (World.ret W θ46) w47 := below_on k46 b47
  have z47 := b47.size
  go_wp2_with (fail)
  intro w48 e48 t48
  have k48 : Below W.heap.size W w48 := e48.below (by first | exact t48 | exact t48.trans k45.tape | exact t48.trans k44.tape | exact t48.trans k33.tape | exact t48.trans k16.tape | exact t48.trans k9.tape) k47
  have z48 := e48.size
  refine hKK _ _ ?_
  clear hKK KK
  refine BesB.ctlG (fun _ => stepG_ret') ?_
  exact fun w1 _ hl => .now ⟨_, rfl, rfl, rfl, rfl, rfl, rfl, below_lay (below_on k48 hl)⟩
theorem lawSeals_bes (p0 : Option Addr) (n0 q0 : Nat) (xs0 : List Int) (C : Array Value) (e : TypeId) (W : World) (hg : Gr C e W) (hx0 : xs0.length = n0) (h0 : BytesIn W p0 n0 xs0) (hb0 : ∀ x ∈ xs0, 0 ≤ x ∧ x < 256) :
    BesB Tryd.prog (LawDone 3 2 W) (G (Frame.enter Tryd.prog 3 #[.slice p0 n0 q0] .normal) []) W := by
  rcases Nat.lt_or_ge 1048576 n0 with hn0 | hn0
  rotate_left
  · exact lawSeals_small p0 n0 q0 xs0 C e W hg hn0 hx0 h0 hb0
  rw [enter_F]
  simp only [bodyF, Tryd.f3, Option.getD_some]
  walk_nrm
  have k0 : Below W.heap.size W W := .refl _ _
  refine BesB.seq fun KK hKK => ?_
  refine BesB.code tameAS rfl rfl (by kernel_rfl) (noFF _) fun K hK θ1 w1 b1 => ?_
  have k1 : Below (World.ret W θ1).heap.size (World.ret W θ1) w1 := below_on (below_ret k0 θ1) b1
  have z1 : W.heap.size ≤ w1.heap.size := b1.size
  go_wp2_with (fail)
  intro w2 e2 t2
  have k2 : Below W.heap.size W w2 := e2.below (by first | exact t2 | exact t2.trans k0.tape) k1
  have z2 := e2.size
  refine hKK _ _ ?_
  clear hKK KK
  refine BesB.ctlG (fun _ => stepG_seq) ?_
  refine BesB.ctlG (fun _ => stepG_seq) ?_
  refine BesB.ctlG (fun _ => stepG_region) ?_
  refine BesB.value (v := .slice p0 n0 q0) rfl rfl (by decide) (fun _ => by simp [go_sem, execOp, Act.eval]) (fun _ => by simp [go_sem, execOp, Act.eval]) ?_
  walk_nrm
  refine BesB.call rfl rfl (by decide) rfl Tryd.func6 (by kernel_rfl) (by kernel_rfl) ?_
  walk_nrm
  refine (BCalls.truth tameAS (by decide) (by decide) (by intro t _ _; simp [alsS]) fun θ w1 b => big_great p0 n0 q0 w1 (by omega)) _ _ _ fun v w9 hv => ?_
  obtain ⟨rfl, b9⟩ := hv
  have k9 := below_on k2 b9
  rw [Frame.finish_at]
  walk_nrm
  refine BesB.ctlG (fun _ => stepG_region_end) ?_
  refine BesB.cond true rfl ?_
  simp only [reduceIte]
  refine BesB.ctlG (fun _ => stepG_seq) ?_
  refine BesB.ctlG (fun _ => stepG_region) ?_
  refine BesB.value (v := .bool true) rfl rfl (by decide) (fun _ => by simp [go_sem, execOp, Act.eval]) (fun _ => by simp [go_sem, execOp, Act.eval]) ?_
  walk_nrm
  refine BesB.ctlG (fun _ => stepG_region_end) ?_
  refine BesB.ctlG (fun _ => stepG_ret') ?_
  exact fun w1 _ hl => .now ⟨_, rfl, rfl, rfl, rfl, rfl, rfl, below_lay (below_on k9 hl)⟩
end Go.Proofs.YthjapmdikbmmkaaDoor
