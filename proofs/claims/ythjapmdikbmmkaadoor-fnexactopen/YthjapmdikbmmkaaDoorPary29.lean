/-
  FnExactOpen beside those that only leave: its own steps, piece by piece (printed by tools/beslaw.py).
-/
import Derived.Test.YthjapmdikbmmkaaDoorPary28
namespace Go.Proofs.YthjapmdikbmmkaaDoor
open Go Go.Conc Go.RowKit
set_option maxRecDepth 100000

def bO : Frame := { (default : Frame) with fn := 5, kind := .normal }
noncomputable def bodyO : Code := Tryd.f5.body.getD .skip
theorem enter_O (x y z u : Value) : Frame.enter Tryd.prog 5 #[x, y, z, u] .normal = bO.at ⟨#[x, y, z, u] ++ Array.replicate 152 undef, []⟩ [.code bodyO] := by
  simp [Frame.enter, Frame.at, bO, bodyO, Tryd.func5, Tryd.f5]
theorem noFO (tmps : Array Value) : ∀ t, alsS.f bO.fn t = true → FnV alsS (tmps.getD t undef) := fun t h => by simp [alsS, bO] at h
set_option maxHeartbeats 16000000 in
theorem lawOpen_bes (p0 p1 p2 p3 : Option Addr) (n0 q0 n1 q1 n2 q2 n3 q3 : Nat) (xs0 xs1 xs2 xs3 : List Int) (C : Array Value) (e : TypeId) (W : World) (hg : Gr C e W) (hx0 : xs0.length = n0) (h0 : BytesIn W p0 n0 xs0) (hb0 : ∀ x ∈ xs0, 0 ≤ x ∧ x < 256) (hx1 : xs1.length = n1) (h1 : BytesIn W p1 n1 xs1) (hb1 : ∀ x ∈ xs1, 0 ≤ x ∧ x < 256) (hx2 : xs2.length = n2) (h2 : BytesIn W p2 n2 xs2) (hb2 : ∀ x ∈ xs2, 0 ≤ x ∧ x < 256) (hx3 : xs3.length = n3) (h3 : BytesIn W p3 n3 xs3) (hb3 : ∀ x ∈ xs3, 0 ≤ x ∧ x < 256) :
    BesB Tryd.prog (LawDone 5 8 W) (G (Frame.enter Tryd.prog 5 #[.slice p0 n0 q0, .slice p1 n1 q1, .slice p2 n2 q2, .slice p3 n3 q3] .normal) []) W := by
  have hs := openN_le n0 n1 n2 n3 xs0 xs1 xs2 xs3
  rw [enter_O]
  simp only [bodyO, Tryd.f5, Option.getD_some]
  walk_nrm
  have k0 : Below W.heap.size W W := .refl _ _
  refine BesB.seq fun KK hKK => ?_
  refine BesB.code tameAS rfl rfl (by kernel_rfl) (noFO _) fun K hK θ1 w1 b1 => ?_
  have k1 : Below (World.ret W θ1).heap.size (World.ret W θ1) w1 := below_on (below_ret k0 θ1) b1
  have z1 : W.heap.size ≤ w1.heap.size := b1.size
  go_wp2_with (fail)
  intro w2 e2 t2
  have k2 : Below W.heap.size W w2 := e2.below (by first | exact t2 | exact t2.trans k0.tape) k1
  have z2 := e2.size
  refine hKK _ _ ?_
  clear hKK KK
  rcases Nat.lt_or_ge 1048576 n0 with hn0 | hn0
  · refine BesB.ctlG (fun _ => stepG_seq) ?_
    refine BesB.ctlG (fun _ => stepG_seq) ?_
    refine BesB.ctlG (fun _ => stepG_region) ?_
    (try simp only [List.size_toArray]); (try simp only [List.length_cons]); (try simp only [List.length_nil]); (try simp only [Nat.zero_add]); (try simp only [Nat.reduceAdd]); (try simp only [List.range]); (try simp only [List.range.loop])
    refine BesB.value (v := .slice p0 n0 q0) rfl rfl (by decide) (fun _ => by simp [go_sem, execOp, Act.eval]) (fun _ => by simp [go_sem, execOp, Act.eval]) ?_
    walk_nrm
    refine BesB.value (v := .int .i64 (n0 : Int)) rfl rfl (by decide) (fun _ => by simp [go_sem, execOp, Act.eval]) (fun _ => by simp [go_sem, execOp, Act.eval]) ?_
    walk_nrm
    refine BesB.value (v := .bool true) rfl rfl (by decide) (fun _ => by simp [go_sem, execOp, Act.eval]; omega) (fun _ => by simp [go_sem, execOp, Act.eval]) ?_
    walk_nrm
    refine BesB.ctlG (fun _ => stepG_region_end) ?_
    refine BesB.cond true rfl ?_
    simp only [reduceIte]
    refine BesB.ctlG (fun _ => stepG_seq) ?_
    refine BesB.ctlG (fun _ => stepG_region) ?_
    (try simp only [List.size_toArray]); (try simp only [List.length_cons]); (try simp only [List.length_nil]); (try simp only [Nat.zero_add]); (try simp only [Nat.reduceAdd]); (try simp only [List.range]); (try simp only [List.range.loop])
    refine BesB.value (v := .bool true) rfl rfl (by decide) (fun _ => by simp [go_sem, execOp, Act.eval]) (fun _ => by simp [go_sem, execOp, Act.eval]) ?_
    walk_nrm
    refine BesB.ctlG (fun _ => stepG_region_end) ?_
    refine BesB.ctlG (fun _ => stepG_ret') ?_
    exact fun w1 _ hl => .now ⟨_, rfl, rfl, rfl, rfl, rfl, rfl, below_lay (below_on k2 hl)⟩
  have c0 : ¬ (1048576 : Int) < (n0 : Int) := by omega
  refine BesB.seq fun KK hKK => ?_
  refine BesB.code tameAS rfl rfl (by kernel_rfl) (noFO _) fun K hK θ3 w3 b3 => ?_
  have k3 : Below (World.ret W θ3).heap.size (World.ret W θ3) w3 := below_on (below_ret k2 θ3) b3
  have z3 : w2.heap.size ≤ w3.heap.size := b3.size
  go_wp2_with (fail)
  intro w4 e4 t4
  have k4 : Below W.heap.size W w4 := e4.below (by first | exact t4 | exact t4.trans k2.tape) k3
  have z4 := e4.size
  refine hKK _ _ ?_
  clear hKK KK
  rcases Nat.lt_or_ge 1048576 n1 with hn1 | hn1
  · refine BesB.ctlG (fun _ => stepG_seq) ?_
    refine BesB.ctlG (fun _ => stepG_seq) ?_
    refine BesB.ctlG (fun _ => stepG_region) ?_
    (try simp only [List.size_toArray]); (try simp only [List.length_cons]); (try simp only [List.length_nil]); (try simp only [Nat.zero_add]); (try simp only [Nat.reduceAdd]); (try simp only [List.range]); (try simp only [List.range.loop])
    refine BesB.value (v := .slice p1 n1 q1) rfl rfl (by decide) (fun _ => by simp [go_sem, execOp, Act.eval]) (fun _ => by simp [go_sem, execOp, Act.eval]) ?_
    walk_nrm
    refine BesB.value (v := .int .i64 (n1 : Int)) rfl rfl (by decide) (fun _ => by simp [go_sem, execOp, Act.eval]) (fun _ => by simp [go_sem, execOp, Act.eval]) ?_
    walk_nrm
    refine BesB.value (v := .bool true) rfl rfl (by decide) (fun _ => by simp [go_sem, execOp, Act.eval]; omega) (fun _ => by simp [go_sem, execOp, Act.eval]) ?_
    walk_nrm
    refine BesB.ctlG (fun _ => stepG_region_end) ?_
    refine BesB.cond true rfl ?_
    simp only [reduceIte]
    refine BesB.ctlG (fun _ => stepG_seq) ?_
    refine BesB.ctlG (fun _ => stepG_region) ?_
    (try simp only [List.size_toArray]); (try simp only [List.length_cons]); (try simp only [List.length_nil]); (try simp only [Nat.zero_add]); (try simp only [Nat.reduceAdd]); (try simp only [List.range]); (try simp only [List.range.loop])
    refine BesB.value (v := .bool true) rfl rfl (by decide) (fun _ => by simp [go_sem, execOp, Act.eval]) (fun _ => by simp [go_sem, execOp, Act.eval]) ?_
    walk_nrm
    refine BesB.ctlG (fun _ => stepG_region_end) ?_
    refine BesB.ctlG (fun _ => stepG_ret') ?_
    exact fun w1 _ hl => .now ⟨_, rfl, rfl, rfl, rfl, rfl, rfl, below_lay (below_on k4 hl)⟩
  have c1 : ¬ (1048576 : Int) < (n1 : Int) := by omega
  refine BesB.seq fun KK hKK => ?_
  refine BesB.code tameAS rfl rfl (by kernel_rfl) (noFO _) fun K hK θ5 w5 b5 => ?_
  have k5 : Below (World.ret W θ5).heap.size (World.ret W θ5) w5 := below_on (below_ret k4 θ5) b5
  have z5 : w4.heap.size ≤ w5.heap.size := b5.size
  go_wp2_with (fail)
  intro w6 e6 t6
  have k6 : Below W.heap.size W w6 := e6.below (by first | exact t6 | exact t6.trans k4.tape) k5
  have z6 := e6.size
  refine hKK _ _ ?_
  clear hKK KK
  rcases Nat.lt_or_ge 1048576 n2 with hn2 | hn2
  · refine BesB.ctlG (fun _ => stepG_seq) ?_
    refine BesB.ctlG (fun _ => stepG_seq) ?_
    refine BesB.ctlG (fun _ => stepG_region) ?_
    (try simp only [List.size_toArray]); (try simp only [List.length_cons]); (try simp only [List.length_nil]); (try simp only [Nat.zero_add]); (try simp only [Nat.reduceAdd]); (try simp only [List.range]); (try simp only [List.range.loop])
    refine BesB.value (v := .slice p2 n2 q2) rfl rfl (by decide) (fun _ => by simp [go_sem, execOp, Act.eval]) (fun _ => by simp [go_sem, execOp, Act.eval]) ?_
    walk_nrm
    refine BesB.value (v := .int .i64 (n2 : Int)) rfl rfl (by decide) (fun _ => by simp [go_sem, execOp, Act.eval]) (fun _ => by simp [go_sem, execOp, Act.eval]) ?_
    walk_nrm
    refine BesB.value (v := .bool true) rfl rfl (by decide) (fun _ => by simp [go_sem, execOp, Act.eval]; omega) (fun _ => by simp [go_sem, execOp, Act.eval]) ?_
    walk_nrm
    refine BesB.ctlG (fun _ => stepG_region_end) ?_
    refine BesB.cond true rfl ?_
    simp only [reduceIte]
    refine BesB.ctlG (fun _ => stepG_seq) ?_
    refine BesB.ctlG (fun _ => stepG_region) ?_
    (try simp only [List.size_toArray]); (try simp only [List.length_cons]); (try simp only [List.length_nil]); (try simp only [Nat.zero_add]); (try simp only [Nat.reduceAdd]); (try simp only [List.range]); (try simp only [List.range.loop])
    refine BesB.value (v := .bool true) rfl rfl (by decide) (fun _ => by simp [go_sem, execOp, Act.eval]) (fun _ => by simp [go_sem, execOp, Act.eval]) ?_
    walk_nrm
    refine BesB.ctlG (fun _ => stepG_region_end) ?_
    refine BesB.ctlG (fun _ => stepG_ret') ?_
    exact fun w1 _ hl => .now ⟨_, rfl, rfl, rfl, rfl, rfl, rfl, below_lay (below_on k6 hl)⟩
  have c2 : ¬ (1048576 : Int) < (n2 : Int) := by omega
  refine BesB.seq fun KK hKK => ?_
  refine BesB.code tameAS rfl rfl (by kernel_rfl) (noFO _) fun K hK θ7 w7 b7 => ?_
  have k7 : Below (World.ret W θ7).heap.size (World.ret W θ7) w7 := below_on (below_ret k6 θ7) b7
  have z7 : w6.heap.size ≤ w7.heap.size := b7.size
  go_wp2_with (fail)
  intro w8 e8 t8
  have k8 : Below W.heap.size W w8 := e8.below (by first | exact t8 | exact t8.trans k6.tape) k7
  have z8 := e8.size
  refine hKK _ _ ?_
  clear hKK KK
  rcases Nat.lt_or_ge 1048576 n3 with hn3 | hn3
  · refine BesB.ctlG (fun _ => stepG_seq) ?_
    refine BesB.ctlG (fun _ => stepG_seq) ?_
    refine BesB.ctlG (fun _ => stepG_region) ?_
    (try simp only [List.size_toArray]); (try simp only [List.length_cons]); (try simp only [List.length_nil]); (try simp only [Nat.zero_add]); (try simp only [Nat.reduceAdd]); (try simp only [List.range]); (try simp only [List.range.loop])
    refine BesB.value (v := .slice p3 n3 q3) rfl rfl (by decide) (fun _ => by simp [go_sem, execOp, Act.eval]) (fun _ => by simp [go_sem, execOp, Act.eval]) ?_
    walk_nrm
    refine BesB.value (v := .int .i64 (n3 : Int)) rfl rfl (by decide) (fun _ => by simp [go_sem, execOp, Act.eval]) (fun _ => by simp [go_sem, execOp, Act.eval]) ?_
    walk_nrm
    refine BesB.value (v := .bool true) rfl rfl (by decide) (fun _ => by simp [go_sem, execOp, Act.eval]; omega) (fun _ => by simp [go_sem, execOp, Act.eval]) ?_
    walk_nrm
    refine BesB.ctlG (fun _ => stepG_region_end) ?_
    refine BesB.cond true rfl ?_
    simp only [reduceIte]
    refine BesB.ctlG (fun _ => stepG_seq) ?_
    refine BesB.ctlG (fun _ => stepG_region) ?_
    (try simp only [List.size_toArray]); (try simp only [List.length_cons]); (try simp only [List.length_nil]); (try simp only [Nat.zero_add]); (try simp only [Nat.reduceAdd]); (try simp only [List.range]); (try simp only [List.range.loop])
    refine BesB.value (v := .bool true) rfl rfl (by decide) (fun _ => by simp [go_sem, execOp, Act.eval]) (fun _ => by simp [go_sem, execOp, Act.eval]) ?_
    walk_nrm
    refine BesB.ctlG (fun _ => stepG_region_end) ?_
    refine BesB.ctlG (fun _ => stepG_ret') ?_
    exact fun w1 _ hl => .now ⟨_, rfl, rfl, rfl, rfl, rfl, rfl, below_lay (below_on k8 hl)⟩
  have c3 : ¬ (1048576 : Int) < (n3 : Int) := by omega
  refine BesB.seq fun KK hKK => ?_
  refine BesB.code tameAS rfl rfl (by kernel_rfl) (noFO _) fun K hK θ9 w9 b9 => ?_
  have k9 : Below (World.ret W θ9).heap.size (World.ret W θ9) w9 := below_on (below_ret k8 θ9) b9
  have z9 : w8.heap.size ≤ w9.heap.size := b9.size
  go_wp2_with (fail)
  intro w10 e10 t10
  have k10 : Below W.heap.size W w10 := e10.below (by first | exact t10 | exact t10.trans k8.tape) k9
  have z10 := e10.size
  refine hKK _ _ ?_
  clear hKK KK
  refine BesB.seq fun KK hKK => ?_
  refine BesB.code tameAS rfl rfl (by kernel_rfl) (noFO _) fun K hK θ11 w11 b11 => ?_
  have k11 : Below (World.ret W θ11).heap.size (World.ret W θ11) w11 := below_on (below_ret k10 θ11) b11
  have z11 : w10.heap.size ≤ w11.heap.size := b11.size
  go_wp2_with (fail)
  refine (toByteS_own p0 n0 q0 xs0 _ hn0 hx0 (in_below (in_ret h0 θ11) k11)).mono ?_
  rintro e w12 ⟨pr1, cr1, rfl, r1, b12⟩
  have k12 : Below (World.ret W θ11).heap.size (World.ret W θ11) w12 := below_on k11 b12
  have z12 := b12.size
  go_wp2_with (fail)
  refine (toByteS_own p1 n1 q1 xs1 _ hn1 hx1 (in_below (in_ret h1 θ11) k12)).mono ?_
  rintro e w13 ⟨pr2, cr2, rfl, r2, b13⟩
  have k13 : Below (World.ret W θ11).heap.size (World.ret W θ11) w13 := below_on k12 b13
  have z13 := b13.size
  replace r1 := r1.on b13
  go_wp2_with (fail)
  refine (toByteS_own p2 n2 q2 xs2 _ hn2 hx2 (in_below (in_ret h2 θ11) k13)).mono ?_
  rintro e w14 ⟨pr3, cr3, rfl, r3, b14⟩
  have k14 : Below (World.ret W θ11).heap.size (World.ret W θ11) w14 := below_on k13 b14
  have z14 := b14.size
  replace r1 := r1.on b14
  replace r2 := r2.on b14
  go_wp2_with (fail)
  refine (toByteS_own p3 n3 q3 xs3 _ hn3 hx3 (in_below (in_ret h3 θ11) k14)).mono ?_
  rintro e w15 ⟨pr4, cr4, rfl, r4, b15⟩
  have k15 : Below (World.ret W θ11).heap.size (World.ret W θ11) w15 := below_on k14 b15
  have z15 := b15.size
  replace r1 := r1.on b15
  replace r2 := r2.on b15
  replace r3 := r3.on b15
  go_wp2_with (fail)
  refine (specOpen_b pr1 pr2 pr3 pr4 n0 cr1 n1 cr2 n2 cr3 n3 cr4 xs0 xs1 xs2 xs3 _ r1.len r2.len r3.len r4.len r4.cap r1.bytes r2.bytes r3.bytes r4.bytes hb0 hb1 hb2 hb3 hn3).mono ?_
  rintro e w16 ⟨pr5, cr5, rfl, r5, b16⟩
  have k16 : Below (World.ret W θ11).heap.size (World.ret W θ11) w16 := below_on k15 b16
  have z16 := b16.size
  go_wp2_with (fail)
  intro w17 e17 t17
  have k17 : Below W.heap.size W w17 := e17.below (by first | exact t17 | exact t17.trans k10.tape) k16
  have z17 := e17.size
  replace r5 := r5.like e17
  refine hKK _ _ ?_
  clear hKK KK
  refine BesB.seq fun KK hKK => ?_
  refine BesB.code tameAS rfl rfl (by kernel_rfl) (noFO _) fun K hK θ18 w18 b18 => ?_
  have k18 : Below (World.ret W θ18).heap.size (World.ret W θ18) w18 := below_on (below_ret k17 θ18) b18
  have z18 : w17.heap.size ≤ w18.heap.size := b18.size
  replace r5 := (r5.ret θ18).on b18
  go_wp2_with (fail)
  refine (toByteS_own p0 n0 q0 xs0 _ hn0 hx0 (in_below (in_ret h0 θ18) k18)).mono ?_
  rintro e w19 ⟨pr6, cr6, rfl, r6, b19⟩
  have k19 : Below (World.ret W θ18).heap.size (World.ret W θ18) w19 := below_on k18 b19
  have z19 := b19.size
  replace r5 := r5.on b19
  go_wp2_with (fail)
  intro w20 e20 t20
  have k20 : Below W.heap.size W w20 := e20.below (by first | exact t20 | exact t20.trans k17.tape) k19
  have z20 := e20.size
  replace r5 := r5.like e20
  replace r6 := r6.like e20
  refine hKK _ _ ?_
  clear hKK KK
  refine BesB.seq fun KK hKK => ?_
  refine BesB.code tameAS rfl rfl (by kernel_rfl) (noFO _) fun K hK θ21 w21 b21 => ?_
  have k21 : Below (World.ret W θ21).heap.size (World.ret W θ21) w21 := below_on (below_ret k20 θ21) b21
  have z21 : w20.heap.size ≤ w21.heap.size := b21.size
  replace r5 := (r5.ret θ21).on b21
  replace r6 := (r6.ret θ21).on b21
  go_wp2_with (fail)
  refine (toByteS_own p1 n1 q1 xs1 _ hn1 hx1 (in_below (in_ret h1 θ21) k21)).mono ?_
  rintro e w22 ⟨pr7, cr7, rfl, r7, b22⟩
  have k22 : Below (World.ret W θ21).heap.size (World.ret W θ21) w22 := below_on k21 b22
  have z22 := b22.size
  replace r5 := r5.on b22
  replace r6 := r6.on b22
  go_wp2_with (fail)
  intro w23 e23 t23
  have k23 : Below W.heap.size W w23 := e23.below (by first | exact t23 | exact t23.trans k20.tape) k22
  have z23 := e23.size
  replace r5 := r5.like e23
  replace r6 := r6.like e23
  replace r7 := r7.like e23
  refine hKK _ _ ?_
  clear hKK KK
  refine BesB.seq fun KK hKK => ?_
  refine BesB.code tameAS rfl rfl (by kernel_rfl) (noFO _) fun K hK θ24 w24 b24 => ?_
  have k24 : Below (World.ret W θ24).heap.size (World.ret W θ24) w24 := below_on (below_ret k23 θ24) b24
  have z24 : w23.heap.size ≤ w24.heap.size := b24.size
  replace r5 := (r5.ret θ24).on b24
  replace r6 := (r6.ret θ24).on b24
  replace r7 := (r7.ret θ24).on b24
  go_wp2_with (fail)
  refine (toByteS_own p2 n2 q2 xs2 _ hn2 hx2 (in_below (in_ret h2 θ24) k24)).mono ?_
  rintro e w25 ⟨pr8, cr8, rfl, r8, b25⟩
  have k25 : Below (World.ret W θ24).heap.size (World.ret W θ24) w25 := below_on k24 b25
  have z25 := b25.size
  replace r5 := r5.on b25
  replace r6 := r6.on b25
  replace r7 := r7.on b25
  go_wp2_with (fail)
  intro w26 e26 t26
  have k26 : Below W.heap.size W w26 := e26.below (by first | exact t26 | exact t26.trans k23.tape) k25
  have z26 := e26.size
  replace r5 := r5.like e26
  replace r6 := r6.like e26
  replace r7 := r7.like e26
  replace r8 := r8.like e26
  refine hKK _ _ ?_
  clear hKK KK
  refine BesB.seq fun KK hKK => ?_
  refine BesB.code tameAS rfl rfl (by kernel_rfl) (noFO _) fun K hK θ27 w27 b27 => ?_
  have k27 : Below (World.ret W θ27).heap.size (World.ret W θ27) w27 := below_on (below_ret k26 θ27) b27
  have z27 : w26.heap.size ≤ w27.heap.size := b27.size
  replace r5 := (r5.ret θ27).on b27
  replace r6 := (r6.ret θ27).on b27
  replace r7 := (r7.ret θ27).on b27
  replace r8 := (r8.ret θ27).on b27
  go_wp2_with (fail)
  refine (toByteS_own p3 n3 q3 xs3 _ hn3 hx3 (in_below (in_ret h3 θ27) k27)).mono ?_
  rintro e w28 ⟨pr9, cr9, rfl, r9, b28⟩
  have k28 : Below (World.ret W θ27).heap.size (World.ret W θ27) w28 := below_on k27 b28
  have z28 := b28.size
  replace r5 := r5.on b28
  replace r6 := r6.on b28
  replace r7 := r7.on b28
  replace r8 := r8.on b28
  go_wp2_with (fail)
  intro w29 e29 t29
  have k29 : Below W.heap.size W w29 := e29.below (by first | exact t29 | exact t29.trans k26.tape) k28
  have z29 := e29.size
  replace r5 := r5.like e29
  replace r6 := r6.like e29
  replace r7 := r7.like e29
  replace r8 := r8.like e29
  replace r9 := r9.like e29
  refine hKK _ _ ?_
  clear hKK KK
  refine BesB.seq fun KK hKK => ?_
  refine BesB.ctlG (fun _ => stepG_region) ?_
  (try simp only [List.size_toArray]); (try simp only [List.length_cons]); (try simp only [List.length_nil]); (try simp only [Nat.zero_add]); (try simp only [Nat.reduceAdd]); (try simp only [List.range]); (try simp only [List.range.loop])
  refine BesB.value (v := .slice pr6 n0 cr6) rfl rfl (by decide) (fun _ => by simp [go_sem, execOp, Act.eval]) (fun _ => by simp [go_sem, execOp, Act.eval]) ?_
  walk_nrm
  refine BesB.value (v := .slice pr7 n1 cr7) rfl rfl (by decide) (fun _ => by simp [go_sem, execOp, Act.eval]) (fun _ => by simp [go_sem, execOp, Act.eval]) ?_
  walk_nrm
  refine BesB.value (v := .slice pr8 n2 cr8) rfl rfl (by decide) (fun _ => by simp [go_sem, execOp, Act.eval]) (fun _ => by simp [go_sem, execOp, Act.eval]) ?_
  walk_nrm
  refine BesB.value (v := .slice pr9 n3 cr9) rfl rfl (by decide) (fun _ => by simp [go_sem, execOp, Act.eval]) (fun _ => by simp [go_sem, execOp, Act.eval]) ?_
  walk_nrm
  refine BesB.call rfl rfl (by decide) rfl Tryd.func11 (by kernel_rfl) (by kernel_rfl) ?_
  walk_nrm
  refine (implOpen_b pr6 pr7 pr8 pr9 n0 cr6 n1 cr7 n2 cr8 n3 cr9 xs0 xs1 xs2 xs3 C e _ (hg.on k29) (r6.tee hb0) (r7.tee hb1) (r8.tee hb2) (r9.tee hb3) hn3) _ _ _ fun v w30 hv => ?_
  obtain ⟨pr10, cr10, rfl, r10, b30⟩ := hv
  have k30 : Below W.heap.size W w30 := below_on k29 b30
  have z30 := b30.size
  replace r5 := r5.on b30
  replace r6 := r6.on b30
  replace r7 := r7.on b30
  replace r8 := r8.on b30
  replace r9 := r9.on b30
  rw [Frame.finish_at]
  walk_nrm
  refine BesB.value (v := .tuple #[.slice pr10 (openN n0 n1 n2 n3 xs0 xs1 xs2 xs3) cr10, .bool (openB n0 n1 n2 n3 xs0 xs1 xs2 xs3)]) rfl rfl (by decide) (fun _ => by simp [go_sem, execOp, Act.eval]) (fun _ => by simp [go_sem, execOp, Act.eval]) ?_
  walk_nrm
  refine BesB.value (v := .slice pr10 (openN n0 n1 n2 n3 xs0 xs1 xs2 xs3) cr10) rfl rfl (by decide) (fun _ => by simp [go_sem, execOp, Act.eval]) (fun _ => by simp [go_sem, execOp, Act.eval]) ?_
  walk_nrm
  refine BesB.value (v := .bool (openB n0 n1 n2 n3 xs0 xs1 xs2 xs3)) rfl rfl (by decide) (fun _ => by simp [go_sem, execOp, Act.eval]) (fun _ => by simp [go_sem, execOp, Act.eval]) ?_
  walk_nrm
  refine BesB.value (v := .slice pr10 (openN n0 n1 n2 n3 xs0 xs1 xs2 xs3) cr10) rfl rfl (by decide) (fun _ => by simp [go_sem, execOp, Act.eval]) (fun _ => by simp [go_sem, execOp, Act.eval]) ?_
  walk_nrm
  refine BesB.value (v := .bool (openB n0 n1 n2 n3 xs0 xs1 xs2 xs3)) rfl rfl (by decide) (fun _ => by simp [go_sem, execOp, Act.eval]) (fun _ => by simp [go_sem, execOp, Act.eval]) ?_
  walk_nrm
  refine BesB.ctlG (fun _ => stepG_region_end) ?_
  refine hKK _ _ ?_
  clear hKK KK
  refine BesB.seq fun KK hKK => ?_
  refine BesB.code tameAS rfl rfl (by kernel_rfl) (noFO _) fun K hK θ31 w31 b31 => ?_
  have k31 : Below (World.ret W θ31).heap.size (World.ret W θ31) w31 := below_on (below_ret k30 θ31) b31
  have z31 : w30.heap.size ≤ w31.heap.size := b31.size
  replace r5 := (r5.ret θ31).on b31
  replace r6 := (r6.ret θ31).on b31
  replace r7 := (r7.ret θ31).on b31
  replace r8 := (r8.ret θ31).on b31
  replace r9 := (r9.ret θ31).on b31
  replace r10 := (r10.ret θ31).on b31
  go_wp2_with (fail)
  refine (eqByteS_any pr10 pr5 (openN n0 n1 n2 n3 xs0 xs1 xs2 xs3) (openN n0 n1 n2 n3 xs0 xs1 xs2 xs3) cr10 cr5 (openX n0 n1 n2 n3 xs0 xs1 xs2 xs3) (openX n0 n1 n2 n3 xs0 xs1 xs2 xs3) _ (by omega) r10.len r5.len r10.bytes r5.bytes).mono ?_
  rintro e w32 ⟨rfl, b32⟩
  have k32 : Below (World.ret W θ31).heap.size (World.ret W θ31) w32 := below_on k31 b32
  have z32 := b32.size
  replace r5 := r5.on b32
  replace r6 := r6.on b32
  replace r7 := r7.on b32
  replace r8 := r8.on b32
  replace r9 := r9.on b32
  replace r10 := r10.on b32
  go_wp2_with (fail)
  intro w33 e33 t33
  have k33 : Below W.heap.size W w33 := e33.below (by first | exact t33 | exact t33.trans k30.tape) k32
  have z33 := e33.size
  replace r5 := r5.like e33
  replace r6 := r6.like e33
  replace r7 := r7.like e33
  replace r8 := r8.like e33
  replace r9 := r9.like e33
  replace r10 := r10.like e33
  refine hKK _ _ ?_
  clear hKK KK
  refine BesB.seq fun KK hKK => ?_
  refine BesB.code tameAS rfl rfl (by kernel_rfl) (noFO _) fun K hK θ34 w34 b34 => ?_
  have k34 : Below (World.ret W θ34).heap.size (World.ret W θ34) w34 := below_on (below_ret k33 θ34) b34
  have z34 : w33.heap.size ≤ w34.heap.size := b34.size
  replace r5 := (r5.ret θ34).on b34
  replace r6 := (r6.ret θ34).on b34
  replace r7 := (r7.ret θ34).on b34
  replace r8 := (r8.ret θ34).on b34
  replace r9 := (r9.ret θ34).on b34
  replace r10 := (r10.ret θ34).on b34
  go_wp2_with (fail)
  refine (toByteS_own p0 n0 q0 xs0 _ hn0 hx0 (in_below (in_ret h0 θ34) k34)).mono ?_
  rintro e w35 ⟨pr11, cr11, rfl, r11, b35⟩
  have k35 : Below (World.ret W θ34).heap.size (World.ret W θ34) w35 := below_on k34 b35
  have z35 := b35.size
  replace r5 := r5.on b35
  replace r6 := r6.on b35
  replace r7 := r7.on b35
  replace r8 := r8.on b35
  replace r9 := r9.on b35
  replace r10 := r10.on b35
  go_wp2_with (fail)
  refine (eqByteS_any pr6 pr11 n0 n0 cr6 cr11 xs0 xs0 _ (by omega) r6.len r11.len r6.bytes r11.bytes).mono ?_
  rintro e w36 ⟨rfl, b36⟩
  have k36 : Below (World.ret W θ34).heap.size (World.ret W θ34) w36 := below_on k35 b36
  have z36 := b36.size
  replace r5 := r5.on b36
  replace r6 := r6.on b36
  replace r7 := r7.on b36
  replace r8 := r8.on b36
  replace r9 := r9.on b36
  replace r10 := r10.on b36
  go_wp2_with (fail)
  intro w37 e37 t37
  have k37 : Below W.heap.size W w37 := e37.below (by first | exact t37 | exact t37.trans k33.tape | exact t37.trans k30.tape) k36
  have z37 := e37.size
  replace r5 := r5.like e37
  replace r6 := r6.like e37
  replace r7 := r7.like e37
  replace r8 := r8.like e37
  replace r9 := r9.like e37
  replace r10 := r10.like e37
  refine hKK _ _ ?_
  clear hKK KK
  refine BesB.seq fun KK hKK => ?_
  refine BesB.code tameAS rfl rfl (by kernel_rfl) (noFO _) fun K hK θ38 w38 b38 => ?_
  have k38 : Below (World.ret W θ38).heap.size (World.ret W θ38) w38 := below_on (below_ret k37 θ38) b38
  have z38 : w37.heap.size ≤ w38.heap.size := b38.size
  replace r5 := (r5.ret θ38).on b38
  replace r6 := (r6.ret θ38).on b38
  replace r7 := (r7.ret θ38).on b38
  replace r8 := (r8.ret θ38).on b38
  replace r9 := (r9.ret θ38).on b38
  replace r10 := (r10.ret θ38).on b38
  go_wp2_with (fail)
  refine (toByteS_own p1 n1 q1 xs1 _ hn1 hx1 (in_below (in_ret h1 θ38) k38)).mono ?_
  rintro e w39 ⟨pr12, cr12, rfl, r12, b39⟩
  have k39 : Below (World.ret W θ38).heap.size (World.ret W θ38) w39 := below_on k38 b39
  have z39 := b39.size
  replace r5 := r5.on b39
  replace r6 := r6.on b39
  replace r7 := r7.on b39
  replace r8 := r8.on b39
  replace r9 := r9.on b39
  replace r10 := r10.on b39
  go_wp2_with (fail)
  refine (eqByteS_any pr7 pr12 n1 n1 cr7 cr12 xs1 xs1 _ (by omega) r7.len r12.len r7.bytes r12.bytes).mono ?_
  rintro e w40 ⟨rfl, b40⟩
  have k40 : Below (World.ret W θ38).heap.size (World.ret W θ38) w40 := below_on k39 b40
  have z40 := b40.size
  replace r5 := r5.on b40
  replace r6 := r6.on b40
  replace r7 := r7.on b40
  replace r8 := r8.on b40
  replace r9 := r9.on b40
  replace r10 := r10.on b40
  go_wp2_with (fail)
  intro w41 e41 t41
  have k41 : Below W.heap.size W w41 := e41.below (by first | exact t41 | exact t41.trans k37.tape | exact t41.trans k30.tape) k40
  have z41 := e41.size
  replace r5 := r5.like e41
  replace r6 := r6.like e41
  replace r7 := r7.like e41
  replace r8 := r8.like e41
  replace r9 := r9.like e41
  replace r10 := r10.like e41
  refine hKK _ _ ?_
  clear hKK KK
  refine BesB.seq fun KK hKK => ?_
  refine BesB.code tameAS rfl rfl (by kernel_rfl) (noFO _) fun K hK θ42 w42 b42 => ?_
  have k42 : Below (World.ret W θ42).heap.size (World.ret W θ42) w42 := below_on (below_ret k41 θ42) b42
  have z42 : w41.heap.size ≤ w42.heap.size := b42.size
  replace r5 := (r5.ret θ42).on b42
  replace r6 := (r6.ret θ42).on b42
  replace r7 := (r7.ret θ42).on b42
  replace r8 := (r8.ret θ42).on b42
  replace r9 := (r9.ret θ42).on b42
  replace r10 := (r10.ret θ42).on b42
  go_wp2_with (fail)
  refine (toByteS_own p2 n2 q2 xs2 _ hn2 hx2 (in_below (in_ret h2 θ42) k42)).mono ?_
  rintro e w43 ⟨pr13, cr13, rfl, r13, b43⟩
  have k43 : Below (World.ret W θ42).heap.size (World.ret W θ42) w43 := below_on k42 b43
  have z43 := b43.size
  replace r5 := r5.on b43
  replace r6 := r6.on b43
  replace r7 := r7.on b43
  replace r8 := r8.on b43
  replace r9 := r9.on b43
  replace r10 := r10.on b43
  go_wp2_with (fail)
  refine (eqByteS_any pr8 pr13 n2 n2 cr8 cr13 xs2 xs2 _ (by omega) r8.len r13.len r8.bytes r13.bytes).mono ?_
  rintro e w44 ⟨rfl, b44⟩
  have k44 : Below (World.ret W θ42).heap.size (World.ret W θ42) w44 := below_on k43 b44
  have z44 := b44.size
  replace r5 := r5.on b44
  replace r6 := r6.on b44
  replace r7 := r7.on b44
  replace r8 := r8.on b44
  replace r9 := r9.on b44
  replace r10 := r10.on b44
  go_wp2_with (fail)
  intro w45 e45 t45
  have k45 : Below W.heap.size W w45 := e45.below (by first | exact t45 | exact t45.trans k41.tape | exact t45.trans k30.tape) k44
  have z45 := e45.size
  replace r5 := r5.like e45
  replace r6 := r6.like e45
  replace r7 := r7.like e45
  replace r8 := r8.like e45
  replace r9 := r9.like e45
  replace r10 := r10.like e45
  refine hKK _ _ ?_
  clear hKK KK
  refine BesB.seq fun KK hKK => ?_
  refine BesB.code tameAS rfl rfl (by kernel_rfl) (noFO _) fun K hK θ46 w46 b46 => ?_
  have k46 : Below (World.ret W θ46).heap.size (World.ret W θ46) w46 := below_on (below_ret k45 θ46) b46
  have z46 : w45.heap.size ≤ w46.heap.size := b46.size
  replace r5 := (r5.ret θ46).on b46
  replace r6 := (r6.ret θ46).on b46
  replace r7 := (r7.ret θ46).on b46
  replace r8 := (r8.ret θ46).on b46
  replace r9 := (r9.ret θ46).on b46
  replace r10 := (r10.ret θ46).on b46
  go_wp2_with (fail)
  refine (toByteS_own p3 n3 q3 xs3 _ hn3 hx3 (in_below (in_ret h3 θ46) k46)).mono ?_
  rintro e w47 ⟨pr14, cr14, rfl, r14, b47⟩
  have k47 : Below (World.ret W θ46).heap.size (World.ret W θ46) w47 := below_on k46 b47
  have z47 := b47.size
  replace r5 := r5.on b47
  replace r6 := r6.on b47
  replace r7 := r7.on b47
  replace r8 := r8.on b47
  replace r9 := r9.on b47
  replace r10 := r10.on b47
  go_wp2_with (fail)
  refine (eqByteS_any pr9 pr14 n3 n3 cr9 cr14 xs3 xs3 _ (by omega) r9.len r14.len r9.bytes r14.bytes).mono ?_
  rintro e w48 ⟨rfl, b48⟩
  have k48 : Below (World.ret W θ46).heap.size (World.ret W θ46) w48 := below_on k47 b48
  have z48 := b48.size
  replace r5 := r5.on b48
  replace r6 := r6.on b48
  replace r7 := r7.on b48
  replace r8 := r8.on b48
  replace r9 := r9.on b48
  replace r10 := r10.on b48
  go_wp2_with (fail)
  intro w49 e49 t49
  have k49 : Below W.heap.size W w49 := e49.below (by first | exact t49 | exact t49.trans k45.tape | exact t49.trans k30.tape) k48
  have z49 := e49.size
  replace r5 := r5.like e49
  replace r6 := r6.like e49
  replace r7 := r7.like e49
  replace r8 := r8.like e49
  replace r9 := r9.like e49
  replace r10 := r10.like e49
  refine hKK _ _ ?_
  clear hKK KK
  refine BesB.seq fun KK hKK => ?_
  refine BesB.code tameAS rfl rfl (by kernel_rfl) (noFO _) fun K hK θ50 w50 b50 => ?_
  have k50 : Below (World.ret W θ50).heap.size (World.ret W θ50) w50 := below_on (below_ret k49 θ50) b50
  have z50 : w49.heap.size ≤ w50.heap.size := b50.size
  replace r5 := (r5.ret θ50).on b50
  replace r6 := (r6.ret θ50).on b50
  replace r7 := (r7.ret θ50).on b50
  replace r8 := (r8.ret θ50).on b50
  replace r9 := (r9.ret θ50).on b50
  replace r10 := (r10.ret θ50).on b50
  go_wp2_with (fail)
  intro w51 e51 t51
  have k51 : Below W.heap.size W w51 := e51.below (by first | exact t51 | exact t51.trans k49.tape | exact t51.trans k30.tape) k50
  have z51 := e51.size
  replace r5 := r5.like e51
  replace r6 := r6.like e51
  replace r7 := r7.like e51
  replace r8 := r8.like e51
  replace r9 := r9.like e51
  replace r10 := r10.like e51
  refine hKK _ _ ?_
  clear hKK KK
  refine BesB.seq fun KK hKK => ?_
  refine BesB.code tameAS rfl rfl (by kernel_rfl) (noFO _) fun K hK θ52 w52 b52 => ?_
  have k52 : Below (World.ret W θ52).heap.size (World.ret W θ52) w52 := below_on (below_ret k51 θ52) b52
  have z52 : w51.heap.size ≤ w52.heap.size := b52.size
  replace r5 := (r5.ret θ52).on b52
  replace r6 := (r6.ret θ52).on b52
  replace r7 := (r7.ret θ52).on b52
  replace r8 := (r8.ret θ52).on b52
  replace r9 := (r9.ret θ52).on b52
  replace r10 := (r10.ret θ52).on b52
  go_wp2_with (fail)
  refine (markByteS_own _ _ pr6 n0 cr6 xs0 1 _ (by omega) (by omega) (by omega) r6).mono ?_
  rintro e w53 ⟨rfl, m53, g53⟩
  have k53 : Below (World.ret W θ52).heap.size (World.ret W θ52) w53 := below_mark k52 g53 r6 (by show W.heap.size ≤ _; omega)
  have z53 := g53.size
  replace r5 := r5.far g53 r6 (by omega)
  replace r7 := r7.far g53 r6 (by omega)
  replace r8 := r8.far g53 r6 (by omega)
  replace r9 := r9.far g53 r6 (by omega)
  replace r10 := r10.far g53 r6 (by omega)
  clear r6 g53
  have r6 := m53
  clear m53
  go_wp2_with (fail)
  intro w54 e54 t54
  have k54 : Below W.heap.size W w54 := e54.below (by first | exact t54 | exact t54.trans k51.tape | exact t54.trans k30.tape) k53
  have z54 := e54.size
  replace r5 := r5.like e54
  replace r7 := r7.like e54
  replace r8 := r8.like e54
  replace r9 := r9.like e54
  replace r10 := r10.like e54
  refine hKK _ _ ?_
  clear hKK KK
  refine BesB.seq fun KK hKK => ?_
  refine BesB.code tameAS rfl rfl (by kernel_rfl) (noFO _) fun K hK θ55 w55 b55 => ?_
  have k55 : Below (World.ret W θ55).heap.size (World.ret W θ55) w55 := below_on (below_ret k54 θ55) b55
  have z55 : w54.heap.size ≤ w55.heap.size := b55.size
  replace r5 := (r5.ret θ55).on b55
  replace r7 := (r7.ret θ55).on b55
  replace r8 := (r8.ret θ55).on b55
  replace r9 := (r9.ret θ55).on b55
  replace r10 := (r10.ret θ55).on b55
  go_wp2_with (fail)
  refine (markByteS_own _ _ pr7 n1 cr7 xs1 (1 + (n0 : Int)) _ (by omega) (by omega) (by omega) r7).mono ?_
  rintro e w56 ⟨rfl, m56, g56⟩
  have k56 : Below (World.ret W θ55).heap.size (World.ret W θ55) w56 := below_mark k55 g56 r7 (by show W.heap.size ≤ _; omega)
  have z56 := g56.size
  replace r5 := r5.far g56 r7 (by omega)
  replace r8 := r8.far g56 r7 (by omega)
  replace r9 := r9.far g56 r7 (by omega)
  replace r10 := r10.far g56 r7 (by omega)
  clear r7 g56
  have r7 := m56
  clear m56
  go_wp2_with (fail)
  intro w57 e57 t57
  have k57 : Below W.heap.size W w57 := e57.below (by first | exact t57 | exact t57.trans k54.tape | exact t57.trans k30.tape) k56
  have z57 := e57.size
  replace r5 := r5.like e57
  replace r8 := r8.like e57
  replace r9 := r9.like e57
  replace r10 := r10.like e57
  refine hKK _ _ ?_
  clear hKK KK
  refine BesB.seq fun KK hKK => ?_
  refine BesB.code tameAS rfl rfl (by kernel_rfl) (noFO _) fun K hK θ58 w58 b58 => ?_
  have k58 : Below (World.ret W θ58).heap.size (World.ret W θ58) w58 := below_on (below_ret k57 θ58) b58
  have z58 : w57.heap.size ≤ w58.heap.size := b58.size
  replace r5 := (r5.ret θ58).on b58
  replace r8 := (r8.ret θ58).on b58
  replace r9 := (r9.ret θ58).on b58
  replace r10 := (r10.ret θ58).on b58
  go_wp2_with (fail)
  refine (markByteS_own _ _ pr8 n2 cr8 xs2 ((1 + (n0 : Int)) + (n1 : Int)) _ (by omega) (by omega) (by omega) r8).mono ?_
  rintro e w59 ⟨rfl, m59, g59⟩
  have k59 : Below (World.ret W θ58).heap.size (World.ret W θ58) w59 := below_mark k58 g59 r8 (by show W.heap.size ≤ _; omega)
  have z59 := g59.size
  replace r5 := r5.far g59 r8 (by omega)
  replace r9 := r9.far g59 r8 (by omega)
  replace r10 := r10.far g59 r8 (by omega)
  clear r8 g59
  have r8 := m59
  clear m59
  go_wp2_with (fail)
  intro w60 e60 t60
  have k60 : Below W.heap.size W w60 := e60.below (by first | exact t60 | exact t60.trans k57.tape | exact t60.trans k30.tape) k59
  have z60 := e60.size
  replace r5 := r5.like e60
  replace r9 := r9.like e60
  replace r10 := r10.like e60
  refine hKK _ _ ?_
  clear hKK KK
  refine BesB.seq fun KK hKK => ?_
  refine BesB.code tameAS rfl rfl (by kernel_rfl) (noFO _) fun K hK θ61 w61 b61 => ?_
  have k61 : Below (World.ret W θ61).heap.size (World.ret W θ61) w61 := below_on (below_ret k60 θ61) b61
  have z61 : w60.heap.size ≤ w61.heap.size := b61.size
  replace r5 := (r5.ret θ61).on b61
  replace r9 := (r9.ret θ61).on b61
  replace r10 := (r10.ret θ61).on b61
  go_wp2_with (fail)
  refine (markByteS_own _ _ pr9 n3 cr9 xs3 (((1 + (n0 : Int)) + (n1 : Int)) + (n2 : Int)) _ (by omega) (by omega) (by omega) r9).mono ?_
  rintro e w62 ⟨rfl, m62, g62⟩
  have k62 : Below (World.ret W θ61).heap.size (World.ret W θ61) w62 := below_mark k61 g62 r9 (by show W.heap.size ≤ _; omega)
  have z62 := g62.size
  replace r5 := r5.far g62 r9 (by omega)
  replace r10 := r10.far g62 r9 (by omega)
  clear r9 g62
  have r9 := m62
  clear m62
  go_wp2_with (fail)
  intro w63 e63 t63
  have k63 : Below W.heap.size W w63 := e63.below (by first | exact t63 | exact t63.trans k60.tape | exact t63.trans k30.tape) k62
  have z63 := e63.size
  replace r5 := r5.like e63
  replace r10 := r10.like e63
  refine hKK _ _ ?_
  clear hKK KK
  refine BesB.seq fun KK hKK => ?_
  refine BesB.code tameAS rfl rfl (by kernel_rfl) (noFO _) fun K hK θ64 w64 b64 => ?_
  have k64 : Below (World.ret W θ64).heap.size (World.ret W θ64) w64 := below_on (below_ret k63 θ64) b64
  have z64 : w63.heap.size ≤ w64.heap.size := b64.size
  replace r5 := (r5.ret θ64).on b64
  replace r10 := (r10.ret θ64).on b64
  go_wp2_with (fail)
  refine (eqByteS_any pr10 pr5 (openN n0 n1 n2 n3 xs0 xs1 xs2 xs3) (openN n0 n1 n2 n3 xs0 xs1 xs2 xs3) cr10 cr5 (openX n0 n1 n2 n3 xs0 xs1 xs2 xs3) (openX n0 n1 n2 n3 xs0 xs1 xs2 xs3) _ (by omega) r10.len r5.len r10.bytes r5.bytes).mono ?_
  rintro e w65 ⟨rfl, b65⟩
  have k65 : Below (World.ret W θ64).heap.size (World.ret W θ64) w65 := below_on k64 b65
  have z65 := b65.size
  replace r5 := r5.on b65
  replace r10 := r10.on b65
  go_wp2_with (fail)
  intro w66 e66 t66
  have k66 : Below W.heap.size W w66 := e66.below (by first | exact t66 | exact t66.trans k63.tape | exact t66.trans k30.tape) k65
  have z66 := e66.size
  replace r5 := r5.like e66
  replace r10 := r10.like e66
  refine hKK _ _ ?_
  clear hKK KK
  refine BesB.seq fun KK hKK => ?_
  refine BesB.code tameAS rfl rfl (by kernel_rfl) (noFO _) fun K hK θ67 w67 b67 => ?_
  have k67 : Below (World.ret W θ67).heap.size (World.ret W θ67) w67 := below_on (below_ret k66 θ67) b67
  have z67 : w66.heap.size ≤ w67.heap.size := b67.size
  replace r5 := (r5.ret θ67).on b67
  replace r10 := (r10.ret θ67).on b67
  go_wp2_with (fail)
  intro w68 e68 t68
  have k68 : Below W.heap.size W w68 := e68.below (by first | exact t68 | exact t68.trans k66.tape | exact t68.trans k30.tape) k67
  have z68 := e68.size
  replace r5 := r5.like e68
  replace r10 := r10.like e68
  refine hKK _ _ ?_
  clear hKK KK
  refine BesB.seq fun KK hKK => ?_
  refine BesB.code tameAS rfl rfl (by kernel_rfl) (noFO _) fun K hK θ69 w69 b69 => ?_
  have k69 : Below (World.ret W θ69).heap.size (World.ret W θ69) w69 := below_on (below_ret k68 θ69) b69
  have z69 : w68.heap.size ≤ w69.heap.size := b69.size
  replace r5 := (r5.ret θ69).on b69
  replace r10 := (r10.ret θ69).on b69
  go_wp2_with (fail)
  refine (markByteS_own _ _ pr10 (openN n0 n1 n2 n3 xs0 xs1 xs2 xs3) cr10 (openX n0 n1 n2 n3 xs0 xs1 xs2 xs3) 1 _ (by omega) (by omega) (by omega) r10).mono ?_
  rintro e w70 ⟨rfl, m70, g70⟩
  have k70 : Below (World.ret W θ69).heap.size (World.ret W θ69) w70 := below_mark k69 g70 r10 (by show W.heap.size ≤ _; omega)
  have z70 := g70.size
  replace r5 := r5.far g70 r10 (by omega)
  clear r10 g70
  have r10 := m70
  clear m70
  go_wp2_with (fail)
  intro w71 e71 t71
  have k71 : Below W.heap.size W w71 := e71.below (by first | exact t71 | exact t71.trans k68.tape | exact t71.trans k30.tape) k70
  have z71 := e71.size
  replace r5 := r5.like e71
  replace r10 := r10.like e71
  refine hKK _ _ ?_
  clear hKK KK
  refine BesB.seq fun KK hKK => ?_
  refine BesB.code tameAS rfl rfl (by kernel_rfl) (noFO _) fun K hK θ72 w72 b72 => ?_
  have k72 : Below (World.ret W θ72).heap.size (World.ret W θ72) w72 := below_on (below_ret k71 θ72) b72
  have z72 : w71.heap.size ≤ w72.heap.size := b72.size
  replace r5 := (r5.ret θ72).on b72
  replace r10 := (r10.ret θ72).on b72
  go_wp2_with (fail)
  intro w73 e73 t73
  have k73 : Below W.heap.size W w73 := e73.below (by first | exact t73 | exact t73.trans k71.tape | exact t73.trans k30.tape) k72
  have z73 := e73.size
  replace r5 := r5.like e73
  replace r10 := r10.like e73
  refine hKK _ _ ?_
  clear hKK KK
  refine BesB.seq fun KK hKK => ?_
  refine BesB.code tameAS rfl rfl (by kernel_rfl) (noFO _) fun K hK θ74 w74 b74 => ?_
  have k74 : Below (World.ret W θ74).heap.size (World.ret W θ74) w74 := below_on (below_ret k73 θ74) b74
  have z74 : w73.heap.size ≤ w74.heap.size := b74.size
  replace r5 := (r5.ret θ74).on b74
  replace r10 := (r10.ret θ74).on b74
  go_wp2_with (fail)
  refine (heldByteS_any pr10 (openN n0 n1 n2 n3 xs0 xs1 xs2 xs3) cr10 1 _ (by omega) (by omega) (by omega) r10.bytes).mono ?_
  rintro e w75 ⟨rfl, b75⟩
  have k75 : Below (World.ret W θ74).heap.size (World.ret W θ74) w75 := below_on k74 b75
  have z75 := b75.size
  replace r5 := r5.on b75
  replace r10 := r10.on b75
  go_wp2_with (fail)
  intro w76 e76 t76
  have k76 : Below W.heap.size W w76 := e76.below (by first | exact t76 | exact t76.trans k73.tape | exact t76.trans k30.tape) k75
  have z76 := e76.size
  replace r5 := r5.like e76
  replace r10 := r10.like e76
  refine hKK _ _ ?_
  clear hKK KK
  refine BesB.seq fun KK hKK => ?_
  refine BesB.code tameAS rfl rfl (by kernel_rfl) (noFO _) fun K hK θ77 w77 b77 => ?_
  have k77 : Below (World.ret W θ77).heap.size (World.ret W θ77) w77 := below_on (below_ret k76 θ77) b77
  have z77 : w76.heap.size ≤ w77.heap.size := b77.size
  replace r5 := (r5.ret θ77).on b77
  replace r10 := (r10.ret θ77).on b77
  go_wp2_with (fail)
  intro w78 e78 t78
  have k78 : Below W.heap.size W w78 := e78.below (by first | exact t78 | exact t78.trans k76.tape | exact t78.trans k30.tape) k77
  have z78 := e78.size
  replace r5 := r5.like e78
  replace r10 := r10.like e78
  refine hKK _ _ ?_
  clear hKK KK
  refine BesB.seq fun KK hKK => ?_
  refine BesB.code tameAS rfl rfl (by kernel_rfl) (noFO _) fun K hK θ79 w79 b79 => ?_
  have k79 : Below (World.ret W θ79).heap.size (World.ret W θ79) w79 := below_on (below_ret k78 θ79) b79
  have z79 : w78.heap.size ≤ w79.heap.size := b79.size
  replace r5 := (r5.ret θ79).on b79
  replace r10 := (r10.ret θ79).on b79
  go_wp2_with (fail)
  intro w80 e80 t80
  have k80 : Below W.heap.size W w80 := e80.below (by first | exact t80 | exact t80.trans k78.tape | exact t80.trans k30.tape) k79
  have z80 := e80.size
  replace r5 := r5.like e80
  replace r10 := r10.like e80
  refine hKK _ _ ?_
  clear hKK KK
  refine BesB.seq fun KK hKK => ?_
  refine BesB.ctlG (fun _ => stepG_region) ?_
  (try simp only [List.size_toArray]); (try simp only [List.length_cons]); (try simp only [List.length_nil]); (try simp only [Nat.zero_add]); (try simp only [Nat.reduceAdd]); (try simp only [List.range]); (try simp only [List.range.loop])
  refine BesB.value (v := .slice p0 n0 q0) rfl rfl (by decide) (fun _ => by simp [go_sem, execOp, Act.eval]) (fun _ => by simp [go_sem, execOp, Act.eval]) ?_
  walk_nrm
  refine BesB.call rfl rfl (by decide) rfl Tryd.func18 (by kernel_rfl) (by kernel_rfl) ?_
  walk_nrm
  refine (BCalls.row tameAS (by decide) (by decide) (by intro t _ _; simp [alsS]) fun θ w1 b => toByteS_own p0 n0 q0 xs0 w1 hn0 hx0 (in_below (in_ret (in_below h0 k80) θ) b)) _ _ _ fun v w81 hv => ?_
  obtain ⟨pr15, cr15, rfl, r15, b81⟩ := hv
  have k81 : Below W.heap.size W w81 := below_on k80 b81
  have z81 := b81.size
  replace r5 := r5.on b81
  replace r10 := r10.on b81
  rw [Frame.finish_at]
  walk_nrm
  refine BesB.value (v := .slice p1 n1 q1) rfl rfl (by decide) (fun _ => by simp [go_sem, execOp, Act.eval]) (fun _ => by simp [go_sem, execOp, Act.eval]) ?_
  walk_nrm
  refine BesB.call rfl rfl (by decide) rfl Tryd.func18 (by kernel_rfl) (by kernel_rfl) ?_
  walk_nrm
  refine (BCalls.row tameAS (by decide) (by decide) (by intro t _ _; simp [alsS]) fun θ w1 b => toByteS_own p1 n1 q1 xs1 w1 hn1 hx1 (in_below (in_ret (in_below h1 k81) θ) b)) _ _ _ fun v w82 hv => ?_
  obtain ⟨pr16, cr16, rfl, r16, b82⟩ := hv
  have k82 : Below W.heap.size W w82 := below_on k81 b82
  have z82 := b82.size
  replace r5 := r5.on b82
  replace r10 := r10.on b82
  replace r15 := r15.on b82
  rw [Frame.finish_at]
  walk_nrm
  refine BesB.value (v := .slice p2 n2 q2) rfl rfl (by decide) (fun _ => by simp [go_sem, execOp, Act.eval]) (fun _ => by simp [go_sem, execOp, Act.eval]) ?_
  walk_nrm
  refine BesB.call rfl rfl (by decide) rfl Tryd.func18 (by kernel_rfl) (by kernel_rfl) ?_
  walk_nrm
  refine (BCalls.row tameAS (by decide) (by decide) (by intro t _ _; simp [alsS]) fun θ w1 b => toByteS_own p2 n2 q2 xs2 w1 hn2 hx2 (in_below (in_ret (in_below h2 k82) θ) b)) _ _ _ fun v w83 hv => ?_
  obtain ⟨pr17, cr17, rfl, r17, b83⟩ := hv
  have k83 : Below W.heap.size W w83 := below_on k82 b83
  have z83 := b83.size
  replace r5 := r5.on b83
  replace r10 := r10.on b83
  replace r15 := r15.on b83
  replace r16 := r16.on b83
  rw [Frame.finish_at]
  walk_nrm
  refine BesB.value (v := .slice p3 n3 q3) rfl rfl (by decide) (fun _ => by simp [go_sem, execOp, Act.eval]) (fun _ => by simp [go_sem, execOp, Act.eval]) ?_
  walk_nrm
  refine BesB.call rfl rfl (by decide) rfl Tryd.func18 (by kernel_rfl) (by kernel_rfl) ?_
  walk_nrm
  refine (BCalls.row tameAS (by decide) (by decide) (by intro t _ _; simp [alsS]) fun θ w1 b => toByteS_own p3 n3 q3 xs3 w1 hn3 hx3 (in_below (in_ret (in_below h3 k83) θ) b)) _ _ _ fun v w84 hv => ?_
  obtain ⟨pr18, cr18, rfl, r18, b84⟩ := hv
  have k84 : Below W.heap.size W w84 := below_on k83 b84
  have z84 := b84.size
  replace r5 := r5.on b84
  replace r10 := r10.on b84
  replace r15 := r15.on b84
  replace r16 := r16.on b84
  replace r17 := r17.on b84
  rw [Frame.finish_at]
  walk_nrm
  refine BesB.call rfl rfl (by decide) rfl Tryd.func11 (by kernel_rfl) (by kernel_rfl) ?_
  walk_nrm
  refine (implOpen_b pr15 pr16 pr17 pr18 n0 cr15 n1 cr16 n2 cr17 n3 cr18 xs0 xs1 xs2 xs3 C e _ (hg.on k84) (r15.tee hb0) (r16.tee hb1) (r17.tee hb2) (r18.tee hb3) hn3) _ _ _ fun v w85 hv => ?_
  obtain ⟨pr19, cr19, rfl, r19, b85⟩ := hv
  have k85 : Below W.heap.size W w85 := below_on k84 b85
  have z85 := b85.size
  replace r5 := r5.on b85
  replace r10 := r10.on b85
  rw [Frame.finish_at]
  walk_nrm
  refine BesB.value (v := .tuple #[.slice pr19 (openN n0 n1 n2 n3 xs0 xs1 xs2 xs3) cr19, .bool (openB n0 n1 n2 n3 xs0 xs1 xs2 xs3)]) rfl rfl (by decide) (fun _ => by simp [go_sem, execOp, Act.eval]) (fun _ => by simp [go_sem, execOp, Act.eval]) ?_
  walk_nrm
  refine BesB.value (v := .slice pr19 (openN n0 n1 n2 n3 xs0 xs1 xs2 xs3) cr19) rfl rfl (by decide) (fun _ => by simp [go_sem, execOp, Act.eval]) (fun _ => by simp [go_sem, execOp, Act.eval]) ?_
  walk_nrm
  refine BesB.value (v := .bool (openB n0 n1 n2 n3 xs0 xs1 xs2 xs3)) rfl rfl (by decide) (fun _ => by simp [go_sem, execOp, Act.eval]) (fun _ => by simp [go_sem, execOp, Act.eval]) ?_
  walk_nrm
  refine BesB.value (v := .slice pr19 (openN n0 n1 n2 n3 xs0 xs1 xs2 xs3) cr19) rfl rfl (by decide) (fun _ => by simp [go_sem, execOp, Act.eval]) (fun _ => by simp [go_sem, execOp, Act.eval]) ?_
  walk_nrm
  refine BesB.value (v := .bool (openB n0 n1 n2 n3 xs0 xs1 xs2 xs3)) rfl rfl (by decide) (fun _ => by simp [go_sem, execOp, Act.eval]) (fun _ => by simp [go_sem, execOp, Act.eval]) ?_
  walk_nrm
  refine BesB.ctlG (fun _ => stepG_region_end) ?_
  refine hKK _ _ ?_
  clear hKK KK
  refine BesB.seq fun KK hKK => ?_
  refine BesB.code tameAS rfl rfl (by kernel_rfl) (noFO _) fun K hK θ86 w86 b86 => ?_
  have k86 : Below (World.ret W θ86).heap.size (World.ret W θ86) w86 := below_on (below_ret k85 θ86) b86
  have z86 : w85.heap.size ≤ w86.heap.size := b86.size
  replace r5 := (r5.ret θ86).on b86
  replace r10 := (r10.ret θ86).on b86
  replace r19 := (r19.ret θ86).on b86
  go_wp2_with (fail)
  refine (eqByteS_any pr19 pr5 (openN n0 n1 n2 n3 xs0 xs1 xs2 xs3) (openN n0 n1 n2 n3 xs0 xs1 xs2 xs3) cr19 cr5 (openX n0 n1 n2 n3 xs0 xs1 xs2 xs3) (openX n0 n1 n2 n3 xs0 xs1 xs2 xs3) _ (by omega) r19.len r5.len r19.bytes r5.bytes).mono ?_
  rintro e w87 ⟨rfl, b87⟩
  have k87 : Below (World.ret W θ86).heap.size (World.ret W θ86) w87 := below_on k86 b87
  have z87 := b87.size
  replace r10 := r10.on b87
  go_wp2_with (fail)
  intro w88 e88 t88
  have k88 : Below W.heap.size W w88 := e88.below (by first | exact t88 | exact t88.trans k85.tape | exact t88.trans k84.tape | exact t88.trans k83.tape | exact t88.trans k82.tape | exact t88.trans k81.tape | exact t88.trans k30.tape) k87
  have z88 := e88.size
  replace r10 := r10.like e88
  refine hKK _ _ ?_
  clear hKK KK
  refine BesB.seq fun KK hKK => ?_
  refine BesB.code tameAS rfl rfl (by kernel_rfl) (noFO _) fun K hK θ89 w89 b89 => ?_
  have k89 : Below (World.ret W θ89).heap.size (World.ret W θ89) w89 := below_on (below_ret k88 θ89) b89
  have z89 : w88.heap.size ≤ w89.heap.size := b89.size
  replace r10 := (r10.ret θ89).on b89
  go_wp2_with (fail)
  intro w90 e90 t90
  have k90 : Below W.heap.size W w90 := e90.below (by first | exact t90 | exact t90.trans k88.tape | exact t90.trans k85.tape | exact t90.trans k84.tape | exact t90.trans k83.tape | exact t90.trans k82.tape | exact t90.trans k81.tape | exact t90.trans k30.tape) k89
  have z90 := e90.size
  replace r10 := r10.like e90
  refine hKK _ _ ?_
  clear hKK KK
  refine BesB.seq fun KK hKK => ?_
  refine BesB.code tameAS rfl rfl (by kernel_rfl) (noFO _) fun K hK θ91 w91 b91 => ?_
  have k91 : Below (World.ret W θ91).heap.size (World.ret W θ91) w91 := below_on (below_ret k90 θ91) b91
  have z91 : w90.heap.size ≤ w91.heap.size := b91.size
  replace r10 := (r10.ret θ91).on b91
  go_wp2_with (fail)
  refine (heldByteS_any pr10 (openN n0 n1 n2 n3 xs0 xs1 xs2 xs3) cr10 1 _ (by omega) (by omega) (by omega) r10.bytes).mono ?_
  rintro e w92 ⟨rfl, b92⟩
  have k92 : Below (World.ret W θ91).heap.size (World.ret W θ91) w92 := below_on k91 b92
  have z92 := b92.size
  go_wp2_with (fail)
  intro w93 e93 t93
  have k93 : Below W.heap.size W w93 := e93.below (by first | exact t93 | exact t93.trans k90.tape | exact t93.trans k85.tape | exact t93.trans k84.tape | exact t93.trans k83.tape | exact t93.trans k82.tape | exact t93.trans k81.tape | exact t93.trans k30.tape) k92
  have z93 := e93.size
  refine hKK _ _ ?_
  clear hKK KK
  refine BesB.seq fun KK hKK => ?_
  refine BesB.code tameAS rfl rfl (by kernel_rfl) (noFO _) fun K hK θ94 w94 b94 => ?_
  have k94 : Below (World.ret W θ94).heap.size (World.ret W θ94) w94 := below_on (below_ret k93 θ94) b94
  have z94 : w93.heap.size ≤ w94.heap.size := b94.size
  go_wp2_with (fail)
  intro w95 e95 t95
  have k95 : Below W.heap.size W w95 := e95.below (by first | exact t95 | exact t95.trans k93.tape | exact t95.trans k85.tape | exact t95.trans k84.tape | exact t95.trans k83.tape | exact t95.trans k82.tape | exact t95.trans k81.tape | exact t95.trans k30.tape) k94
  have z95 := e95.size
  refine hKK _ _ ?_
  clear hKK KK
  refine BesB.seq fun KK hKK => ?_
  refine BesB.code tameAS rfl rfl (by kernel_rfl) (noFO _) fun K hK θ96 w96 b96 => ?_
  have k96 : Below (World.ret W θ96).heap.size (World.ret W θ96) w96 := below_on (below_ret k95 θ96) b96
  have z96 : w95.heap.size ≤ w96.heap.size := b96.size
  go_wp2_with (fail)
  intro w97 e97 t97
  have k97 : Below W.heap.size W w97 := e97.below (by first | exact t97 | exact t97.trans k95.tape | exact t97.trans k85.tape | exact t97.trans k84.tape | exact t97.trans k83.tape | exact t97.trans k82.tape | exact t97.trans k81.tape | exact t97.trans k30.tape) k96
  have z97 := e97.size
  refine hKK _ _ ?_
  clear hKK KK
  refine BesB.ctlG (fun _ => stepG_seq) ?_
  refine BesB.ctlG (fun _ => stepG_region) ?_
  (try simp only [List.size_toArray]); (try simp only [List.length_cons]); (try simp only [List.length_nil]); (try simp only [Nat.zero_add]); (try simp only [Nat.reduceAdd]); (try simp only [List.range]); (try simp only [List.range.loop])
  refine BesB.value (v := .bool true) rfl rfl (by decide) (fun _ => by simp [go_sem, execOp, Act.eval]) (fun _ => by simp [go_sem, execOp, Act.eval]) ?_
  walk_nrm
  refine BesB.ctlG (fun _ => stepG_region_end) ?_
  refine BesB.ctlG (fun _ => stepG_ret') ?_
  exact fun w1 _ hl => .now ⟨_, rfl, rfl, rfl, rfl, rfl, rfl, below_lay (below_on k97 hl)⟩
end Go.Proofs.YthjapmdikbmmkaaDoor
