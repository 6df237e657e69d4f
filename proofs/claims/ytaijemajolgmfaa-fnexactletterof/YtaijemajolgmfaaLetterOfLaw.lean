/-
  FnExactLetterOf returns true for any bytes, and writes nothing that was there; condition: bytes all.
-/
import Derived.Test.YtaijemajolgmfaaSpecLetterOf
namespace Go.Proofs.Ytaijemajolgmfaa
open Go.RowKit

set_option maxHeartbeats 8000000 in
theorem letterOf_small (p0 : Option Addr) (n0 q0 : Nat) (xs0 : List Int) (w : World) (hn0 : n0 ≤ 1048576) (hx0 : xs0.length = n0) (h0 : BytesIn w p0 n0 xs0) (hb0 : ∀ x ∈ xs0, 0 ≤ x ∧ x < 256) :
    Calls Try.prog 7 #[.slice p0 n0 q0] w fun e w' => e = .returned (.bool true) ∧ Below w.heap.size w w' := by
  have c0 : ¬ (1048576 : Int) < (n0 : Int) := by omega
  obtain ⟨E0, N0, M0, X0, Y0, K0, hN0, hM0, CS, CI⟩ : ∃ (E0 : Int) (N0 M0 : Nat) (X0 Y0 : List Int) (K0 : Bool), N0 ≤ 32 ∧ M0 ≤ 1516 ∧ (∀ (p : Option Addr) (c : Nat) (X : World), BytesIn X p n0 xs0 → n0 ≤ c → Calls Try.prog 28 #[.slice p n0 c] X fun e w' => ∃ p c q d, e = .returned (.tuple #[.agg #[.int .i64 E0, .slice p N0 c, .slice q M0 d], .bool K0]) ∧ Pair w' X.heap.size p q c d N0 M0 X0 Y0 ∧ Below X.heap.size X w') ∧ (∀ (p : Option Addr) (c : Nat) (X : World), BytesIn X p n0 xs0 → n0 ≤ c → Calls Try.prog 29 #[.slice p n0 c] X fun e w' => ∃ p c q d, e = .returned (.tuple #[.agg #[.int .i64 E0, .slice p N0 c, .slice q M0 d], .bool K0]) ∧ Pair w' X.heap.size p q c d N0 M0 X0 Y0 ∧ Below X.heap.size X w') :=
    ⟨loE xs0, loN xs0, loM xs0, loX xs0, loY xs0, decide (loOk xs0), loN_le xs0, loM_le xs0, fun p c X i hc => specLetterOf_any p n0 c xs0 X hn0 hx0 i hb0 hc, fun p c X i hc => implLetterOf_any p n0 c xs0 X hn0 hx0 i hb0 hc⟩
  go_enter Try.func7, Try.ntmps7
  go_wp2_with (fail)
  refine (toByteS_own p0 n0 q0 xs0 _ hn0 hx0 h0).mono ?_
  rintro e w1 ⟨pr1, cr1, rfl, r1, b1⟩
  have k1 : Below w.heap.size w w1 := below_on (Below.refl _ _) b1
  have z1 := b1.size
  go_wp2_with (fail)
  refine (CS pr1 cr1 _ r1.bytes r1.cap).mono ?_
  rintro e w2 ⟨pr2a, cr2a, pr2b, cr2b, rfl, ⟨lr2a, hr2a, lr2b, hr2b, r2a, r2b, ur2a, ur2b, ur2d⟩, b2⟩
  have k2 : Below w.heap.size w w2 := below_on k1 b2
  have z2 := b2.size
  replace r1 := r1.on b2
  obtain ⟨w3, hw3⟩ : ∃ X, X = w2.alloc (.cells #[.int .i64 E0, .slice pr2a N0 cr2a, .slice pr2b M0 cr2b] 33) := ⟨_, rfl⟩
  have b3 : Below w2.heap.size w2 w3 := by rw [hw3]; exact made_below _ _ (Below.refl _ _)
  have Cw : Cells w3 w2.heap.size #[.int .i64 E0, .slice pr2a N0 cr2a, .slice pr2b M0 cr2b] := by rw [hw3]; exact Cells.made _ _ _
  replace hw3 : Hid (w2.alloc (.cells #[.int .i64 E0, .slice pr2a N0 cr2a, .slice pr2b M0 cr2b] 33) = w3) := hw3.symm
  have k3 : Below w.heap.size w w3 := below_on k2 b3
  have z3 := b3.size
  replace r1 := r1.on b3
  replace r2a := r2a.on b3
  replace r2b := r2b.on b3
  go_wp2_with (rw [hw3.out])
  clear hw3
  obtain ⟨Bw, hBw⟩ : ∃ B, B = w2.heap.size := ⟨_, rfl⟩
  have vw : w2.heap.size ≤ Bw ∧ Bw < w3.heap.size := by rw [hBw]; exact ⟨Nat.le_refl _, Cw.1⟩
  rw [← hBw] at Cw  ⊢
  clear hBw
  refine (toByteS_own p0 n0 q0 xs0 _ hn0 hx0 (in_below h0 k3)).mono ?_
  rintro e w4 ⟨pr3, cr3, rfl, r3, b4⟩
  have k4 : Below w.heap.size w w4 := below_on k3 b4
  have z4 := b4.size
  replace r1 := r1.on b4
  replace r2a := r2a.on b4
  replace r2b := r2b.on b4
  replace Cw := Cw.on b4
  go_wp2_with (fail)
  refine (CI pr3 cr3 _ r3.bytes r3.cap).mono ?_
  rintro e w5 ⟨pr4a, cr4a, pr4b, cr4b, rfl, ⟨lr4a, hr4a, lr4b, hr4b, r4a, r4b, ur4a, ur4b, ur4d⟩, b5⟩
  have k5 : Below w.heap.size w w5 := below_on k4 b5
  have z5 := b5.size
  replace r1 := r1.on b5
  replace r2a := r2a.on b5
  replace r2b := r2b.on b5
  replace r3 := r3.on b5
  replace Cw := Cw.on b5
  obtain ⟨w6, hw6⟩ : ∃ X, X = w5.alloc (.cells #[.int .i64 E0, .slice pr4a N0 cr4a, .slice pr4b M0 cr4b] 33) := ⟨_, rfl⟩
  have b6 : Below w5.heap.size w5 w6 := by rw [hw6]; exact made_below _ _ (Below.refl _ _)
  have Cg : Cells w6 w5.heap.size #[.int .i64 E0, .slice pr4a N0 cr4a, .slice pr4b M0 cr4b] := by rw [hw6]; exact Cells.made _ _ _
  replace hw6 : Hid (w5.alloc (.cells #[.int .i64 E0, .slice pr4a N0 cr4a, .slice pr4b M0 cr4b] 33) = w6) := hw6.symm
  have k6 : Below w.heap.size w w6 := below_on k5 b6
  have z6 := b6.size
  replace r1 := r1.on b6
  replace r2a := r2a.on b6
  replace r2b := r2b.on b6
  replace r3 := r3.on b6
  replace r4a := r4a.on b6
  replace r4b := r4b.on b6
  replace Cw := Cw.on b6
  have lg0 : w6.cell? ⟨w5.heap.size, 0, none⟩ = some (.int .i64 E0) := (Cg.2 0).1
  have lg1 : w6.cell? ⟨w5.heap.size, 1, none⟩ = some (.slice pr4a N0 cr4a) := (Cg.2 1).1
  have lg2 : w6.cell? ⟨w5.heap.size, 2, none⟩ = some (.slice pr4b M0 cr4b) := (Cg.2 2).1
  have lw0 : w6.cell? ⟨Bw, 0, none⟩ = some (.int .i64 E0) := (Cw.2 0).1
  have lw1 : w6.cell? ⟨Bw, 1, none⟩ = some (.slice pr2a N0 cr2a) := (Cw.2 1).1
  have lw2 : w6.cell? ⟨Bw, 2, none⟩ = some (.slice pr2b M0 cr2b) := (Cw.2 2).1
  go_wp2_with (rw [hw6.out])
  clear hw6
  obtain ⟨Bg, hBg⟩ : ∃ B, B = w5.heap.size := ⟨_, rfl⟩
  have vg : w5.heap.size ≤ Bg ∧ Bg < w6.heap.size := by rw [hBg]; exact ⟨Nat.le_refl _, Cg.1⟩
  rw [← hBg] at Cg lg0 lg1 lg2 ⊢
  clear hBg
  clear lg0 lg1 lg2 lw0 lw1 lw2
  refine (eqLetter_any E0 E0 pr4a pr4b pr2a pr2b N0 cr4a M0 cr4b N0 cr2a M0 cr2b X0 Y0 X0 Y0 _ (by omega) (by omega) r4a.len r4b.len r2a.len r2b.len r4a.bytes r4b.bytes r2a.bytes r2b.bytes).mono ?_
  rintro e w7 ⟨rfl, b7⟩
  have k7 : Below w.heap.size w w7 := below_on k6 b7
  have z7 := b7.size
  replace r1 := r1.on b7
  replace r2a := r2a.on b7
  replace r2b := r2b.on b7
  replace r3 := r3.on b7
  replace r4a := r4a.on b7
  replace r4b := r4b.on b7
  replace Cw := Cw.on b7
  replace Cg := Cg.on b7
  go_wp2_with (fail)
  refine (toByteS_own p0 n0 q0 xs0 _ hn0 hx0 (in_below h0 k7)).mono ?_
  rintro e w8 ⟨pr5, cr5, rfl, r5, b8⟩
  have k8 : Below w.heap.size w w8 := below_on k7 b8
  have z8 := b8.size
  replace r1 := r1.on b8
  replace r2a := r2a.on b8
  replace r2b := r2b.on b8
  replace r3 := r3.on b8
  replace r4a := r4a.on b8
  replace r4b := r4b.on b8
  replace Cw := Cw.on b8
  replace Cg := Cg.on b8
  go_wp2_with (fail)
  refine (eqByteS_any pr3 pr5 n0 n0 cr3 cr5 xs0 xs0 _ (by omega) r3.len r5.len r3.bytes r5.bytes).mono ?_
  rintro e w9 ⟨rfl, b9⟩
  have k9 : Below w.heap.size w w9 := below_on k8 b9
  have z9 := b9.size
  replace r1 := r1.on b9
  replace r2a := r2a.on b9
  replace r2b := r2b.on b9
  replace r3 := r3.on b9
  replace r4a := r4a.on b9
  replace r4b := r4b.on b9
  replace r5 := r5.on b9
  replace Cw := Cw.on b9
  replace Cg := Cg.on b9
  go_wp2_with (fail)
  refine (markByteS_own _ _ pr3 n0 cr3 xs0 1 _ (by omega) (by omega) (by omega) r3).mono ?_
  rintro e w10 ⟨rfl, m10, g10⟩
  have k10 : Below w.heap.size w w10 := below_mark k9 g10 r3 (by omega)
  have z10 := g10.size
  replace Cw := Cw.far g10 r3 (by omega)
  replace Cg := Cg.far g10 r3 (by omega)
  replace r1 := r1.far g10 r3 (by omega)
  replace r2a := r2a.far g10 r3 (by omega)
  replace r2b := r2b.far g10 r3 (by omega)
  replace r4a := r4a.far g10 r3 (by omega)
  replace r4b := r4b.far g10 r3 (by omega)
  replace r5 := r5.far g10 r3 (by omega)
  clear r3 g10
  have r3 := m10
  clear m10
  have lg0 : w10.cell? ⟨Bg, 0, none⟩ = some (.int .i64 E0) := (Cg.2 0).1
  have lg1 : w10.cell? ⟨Bg, 1, none⟩ = some (.slice pr4a N0 cr4a) := (Cg.2 1).1
  have lg2 : w10.cell? ⟨Bg, 2, none⟩ = some (.slice pr4b M0 cr4b) := (Cg.2 2).1
  have lw0 : w10.cell? ⟨Bw, 0, none⟩ = some (.int .i64 E0) := (Cw.2 0).1
  have lw1 : w10.cell? ⟨Bw, 1, none⟩ = some (.slice pr2a N0 cr2a) := (Cw.2 1).1
  have lw2 : w10.cell? ⟨Bw, 2, none⟩ = some (.slice pr2b M0 cr2b) := (Cw.2 2).1
  go_wp2_with (fail)
  clear lg0 lg1 lg2 lw0 lw1 lw2
  refine (eqLetter_any E0 E0 pr4a pr4b pr2a pr2b N0 cr4a M0 cr4b N0 cr2a M0 cr2b X0 Y0 X0 Y0 _ (by omega) (by omega) r4a.len r4b.len r2a.len r2b.len r4a.bytes r4b.bytes r2a.bytes r2b.bytes).mono ?_
  rintro e w11 ⟨rfl, b11⟩
  have k11 : Below w.heap.size w w11 := below_on k10 b11
  have z11 := b11.size
  replace r1 := r1.on b11
  replace r2a := r2a.on b11
  replace r2b := r2b.on b11
  replace r3 := r3.on b11
  replace r4a := r4a.on b11
  replace r4b := r4b.on b11
  replace r5 := r5.on b11
  replace Cw := Cw.on b11
  replace Cg := Cg.on b11
  have lg0 : w11.cell? ⟨Bg, 0, none⟩ = some (.int .i64 E0) := (Cg.2 0).1
  have lg1 : w11.cell? ⟨Bg, 1, none⟩ = some (.slice pr4a N0 cr4a) := (Cg.2 1).1
  have lg2 : w11.cell? ⟨Bg, 2, none⟩ = some (.slice pr4b M0 cr4b) := (Cg.2 2).1
  go_wp2_with (fail)
  clear lg0 lg1 lg2
  refine (markLetter_own _ _ _ _ E0 pr4a pr4b N0 cr4a M0 cr4b X0 Y0 1 _ (by omega) (by omega) (by omega) (by omega) (by omega) (by omega) r4a r4b).mono ?_
  rintro e w12 ⟨rfl, wa12, wb12, ba12, ga12, gb12, ma12, mb12⟩
  have k12 : Below w.heap.size w w12 := marks_below k11 ba12 ga12 gb12 r4a r4b (by omega) (by omega) (by omega)
  have z12 := marks_size ba12 ga12 gb12
  replace Cw := Cw.past ba12 ga12 gb12 r4a r4b (by omega) (by omega) (by omega)
  replace Cg := Cg.past ba12 ga12 gb12 r4a r4b (by omega) (by omega) (by omega)
  replace r1 := r1.past ba12 ga12 gb12 r4a r4b (by omega) (by omega) (by omega)
  replace r2a := r2a.past ba12 ga12 gb12 r4a r4b (by omega) (by omega) (by omega)
  replace r2b := r2b.past ba12 ga12 gb12 r4a r4b (by omega) (by omega) (by omega)
  replace r3 := r3.past ba12 ga12 gb12 r4a r4b (by omega) (by omega) (by omega)
  replace r5 := r5.past ba12 ga12 gb12 r4a r4b (by omega) (by omega) (by omega)
  clear r4a r4b ga12 gb12 ba12
  have r4a := ma12
  have r4b := mb12
  clear ma12 mb12
  have lg0 : w12.cell? ⟨Bg, 0, none⟩ = some (.int .i64 E0) := (Cg.2 0).1
  have lg1 : w12.cell? ⟨Bg, 1, none⟩ = some (.slice pr4a N0 cr4a) := (Cg.2 1).1
  have lg2 : w12.cell? ⟨Bg, 2, none⟩ = some (.slice pr4b M0 cr4b) := (Cg.2 2).1
  go_wp2_with (fail)
  clear lg0 lg1 lg2
  refine (heldLetter_any E0 pr4a pr4b N0 cr4a M0 cr4b 1 _ (by omega) (by omega) (by omega) (by omega) r4a.bytes r4b.bytes).mono ?_
  rintro e w13 ⟨rfl, b13⟩
  have k13 : Below w.heap.size w w13 := below_on k12 b13
  have z13 := b13.size
  replace r1 := r1.on b13
  replace r2a := r2a.on b13
  replace r2b := r2b.on b13
  replace r3 := r3.on b13
  replace r4a := r4a.on b13
  replace r4b := r4b.on b13
  replace r5 := r5.on b13
  replace Cw := Cw.on b13
  replace Cg := Cg.on b13
  go_wp2_with (fail)
  refine (toByteS_own p0 n0 q0 xs0 _ hn0 hx0 (in_below h0 k13)).mono ?_
  rintro e w14 ⟨pr6, cr6, rfl, r6, b14⟩
  have k14 : Below w.heap.size w w14 := below_on k13 b14
  have z14 := b14.size
  replace r1 := r1.on b14
  replace r2a := r2a.on b14
  replace r2b := r2b.on b14
  replace r3 := r3.on b14
  replace r4a := r4a.on b14
  replace r4b := r4b.on b14
  replace r5 := r5.on b14
  replace Cw := Cw.on b14
  replace Cg := Cg.on b14
  go_wp2_with (fail)
  refine (CI pr6 cr6 _ r6.bytes r6.cap).mono ?_
  rintro e w15 ⟨pr7a, cr7a, pr7b, cr7b, rfl, ⟨lr7a, hr7a, lr7b, hr7b, r7a, r7b, ur7a, ur7b, ur7d⟩, b15⟩
  have k15 : Below w.heap.size w w15 := below_on k14 b15
  have z15 := b15.size
  replace r1 := r1.on b15
  replace r2a := r2a.on b15
  replace r2b := r2b.on b15
  replace r3 := r3.on b15
  replace r4a := r4a.on b15
  replace r4b := r4b.on b15
  replace r5 := r5.on b15
  replace r6 := r6.on b15
  replace Cw := Cw.on b15
  replace Cg := Cg.on b15
  obtain ⟨w16, hw16⟩ : ∃ X, X = w15.alloc (.cells #[.int .i64 E0, .slice pr7a N0 cr7a, .slice pr7b M0 cr7b] 33) := ⟨_, rfl⟩
  have b16 : Below w15.heap.size w15 w16 := by rw [hw16]; exact made_below _ _ (Below.refl _ _)
  have Ch : Cells w16 w15.heap.size #[.int .i64 E0, .slice pr7a N0 cr7a, .slice pr7b M0 cr7b] := by rw [hw16]; exact Cells.made _ _ _
  replace hw16 : Hid (w15.alloc (.cells #[.int .i64 E0, .slice pr7a N0 cr7a, .slice pr7b M0 cr7b] 33) = w16) := hw16.symm
  have k16 : Below w.heap.size w w16 := below_on k15 b16
  have z16 := b16.size
  replace r1 := r1.on b16
  replace r2a := r2a.on b16
  replace r2b := r2b.on b16
  replace r3 := r3.on b16
  replace r4a := r4a.on b16
  replace r4b := r4b.on b16
  replace r5 := r5.on b16
  replace r6 := r6.on b16
  replace r7a := r7a.on b16
  replace r7b := r7b.on b16
  replace Cw := Cw.on b16
  replace Cg := Cg.on b16
  have lh0 : w16.cell? ⟨w15.heap.size, 0, none⟩ = some (.int .i64 E0) := (Ch.2 0).1
  have lh1 : w16.cell? ⟨w15.heap.size, 1, none⟩ = some (.slice pr7a N0 cr7a) := (Ch.2 1).1
  have lh2 : w16.cell? ⟨w15.heap.size, 2, none⟩ = some (.slice pr7b M0 cr7b) := (Ch.2 2).1
  have lw0 : w16.cell? ⟨Bw, 0, none⟩ = some (.int .i64 E0) := (Cw.2 0).1
  have lw1 : w16.cell? ⟨Bw, 1, none⟩ = some (.slice pr2a N0 cr2a) := (Cw.2 1).1
  have lw2 : w16.cell? ⟨Bw, 2, none⟩ = some (.slice pr2b M0 cr2b) := (Cw.2 2).1
  go_wp2_with (rw [hw16.out])
  clear hw16
  obtain ⟨Bh, hBh⟩ : ∃ B, B = w15.heap.size := ⟨_, rfl⟩
  have vh : w15.heap.size ≤ Bh ∧ Bh < w16.heap.size := by rw [hBh]; exact ⟨Nat.le_refl _, Ch.1⟩
  rw [← hBh] at Ch lh0 lh1 lh2 ⊢
  clear hBh
  clear lh0 lh1 lh2 lw0 lw1 lw2
  refine (eqLetter_any E0 E0 pr7a pr7b pr2a pr2b N0 cr7a M0 cr7b N0 cr2a M0 cr2b X0 Y0 X0 Y0 _ (by omega) (by omega) r7a.len r7b.len r2a.len r2b.len r7a.bytes r7b.bytes r2a.bytes r2b.bytes).mono ?_
  rintro e w17 ⟨rfl, b17⟩
  have k17 : Below w.heap.size w w17 := below_on k16 b17
  have z17 := b17.size
  replace r1 := r1.on b17
  replace r2a := r2a.on b17
  replace r2b := r2b.on b17
  replace r3 := r3.on b17
  replace r4a := r4a.on b17
  replace r4b := r4b.on b17
  replace r5 := r5.on b17
  replace r6 := r6.on b17
  replace r7a := r7a.on b17
  replace r7b := r7b.on b17
  replace Cw := Cw.on b17
  replace Cg := Cg.on b17
  replace Ch := Ch.on b17
  have lg0 : w17.cell? ⟨Bg, 0, none⟩ = some (.int .i64 E0) := (Cg.2 0).1
  have lg1 : w17.cell? ⟨Bg, 1, none⟩ = some (.slice pr4a N0 cr4a) := (Cg.2 1).1
  have lg2 : w17.cell? ⟨Bg, 2, none⟩ = some (.slice pr4b M0 cr4b) := (Cg.2 2).1
  go_wp2_with (fail)
  clear lg0 lg1 lg2
  refine (heldLetter_any E0 pr4a pr4b N0 cr4a M0 cr4b 1 _ (by omega) (by omega) (by omega) (by omega) r4a.bytes r4b.bytes).mono ?_
  rintro e w18 ⟨rfl, b18⟩
  have k18 : Below w.heap.size w w18 := below_on k17 b18
  have z18 := b18.size
  replace r1 := r1.on b18
  replace r2a := r2a.on b18
  replace r2b := r2b.on b18
  replace r3 := r3.on b18
  replace r4a := r4a.on b18
  replace r4b := r4b.on b18
  replace r5 := r5.on b18
  replace r6 := r6.on b18
  replace r7a := r7a.on b18
  replace r7b := r7b.on b18
  replace Cw := Cw.on b18
  replace Cg := Cg.on b18
  replace Ch := Ch.on b18
  go_wp2_with (fail)
  go_ret
  exact ⟨rfl, k18⟩

theorem letterOf_law (p0 : Option Addr) (n0 q0 : Nat) (xs0 : List Int) (w : World) (hx0 : xs0.length = n0) (h0 : BytesIn w p0 n0 xs0) (hb0 : ∀ x ∈ xs0, 0 ≤ x ∧ x < 256) :
    Calls Try.prog 7 #[.slice p0 n0 q0] w fun e w' => e = .returned (.bool true) ∧ Below w.heap.size w w' := by
  by_cases hn0 : n0 ≤ 1048576
  · exact letterOf_small p0 n0 q0 xs0 w hn0 hx0 h0 hb0
  · have d0 : (1048576 : Int) < (n0 : Int) := by omega
    clear hx0 h0 hb0
    go_enter Try.func7, Try.ntmps7
    go_wp2
    go_ret
    exact ⟨rfl, Below.refl _ _⟩

end Go.Proofs.Ytaijemajolgmfaa
