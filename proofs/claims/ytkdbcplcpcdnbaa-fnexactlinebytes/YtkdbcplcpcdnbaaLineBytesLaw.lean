/-
  FnExactLineBytes returns true for any line, and writes nothing that was there; conditions: lengths that there can be.
-/
import Derived.Test.YtkdbcplcpcdnbaaImplLineBytes
import Derived.Test.YtkdbcplcpcdnbaaQueueWalk
import Derived.Deep.RegionHeld3
namespace Go.Proofs.Ytkdbcplcpcdnbaa
open Go.RowKit
set_option maxRecDepth 100000

theorem markLine_own (lo hi : Nat) (kd : Int) (s : ByteArray) (t d : Int) (p : Option Addr) (n c : Nat) (xs : List Int) (k : Int) (w : World) (hn : n ≤ 1048576) (hk : 0 ≤ k) (hk2 : k ≤ 100000000) (h : Own 5 w lo hi (.slice p n c) n xs) :
    Calls Try.prog 35 #[.agg #[.int .i64 kd, .string s, .int .i64 t, .int .i64 d, .slice p n c], .int .i64 k] w fun e w' => e = .returned (.int .i64 (k + n)) ∧ Own 5 w' lo hi (.slice p n c) n (marks k n) ∧ Within lo hi w w' := by
  have kA : ∀ o, Below w.heap.size w (w.alloc o) := fun o => made_below _ _ (Below.refl _ _)
  go_enter Try.func35, Try.ntmps35
  go_wp2_with (fail)
  refine (markByteS_own lo hi p n c xs k _ (by omega) hk (by omega) (h.on (kA _))).mono ?_
  rintro z w1 ⟨rfl, r1, g1⟩
  have W1 := (((Within.refl lo hi w).below (kA _)).grown g1 (fun q hq => ⟨(h.1.lt q hq).1, h.2 q hq⟩))
  obtain ⟨q, hq⟩ : ∃ q : Int, q = k + n := ⟨_, rfl⟩
  rw [← hq]
  clear g1 kA h
  go_wp2_with (fail)
  go_ret
  exact ⟨by rw [← hq]; rfl, r1, W1⟩
theorem lineN_le (kd : Int) (s : ByteArray) (t d : Int) (n : Nat) : lineN kd s t d n ≤ 1578 := by
  unfold lineN
  split
  · rename_i h
    have := (lnB_facts h).2.2.2.1
    omega
  · omega

set_option maxHeartbeats 8000000 in
theorem lineBytes_small (k0 : Int) (s0 : ByteArray) (t0 d0 : Int) (p0 : Option Addr) (n0 q0 : Nat) (xs0 : List Int) (w : World) (hs : s0.size + n0 ≤ 1048576) (hx0 : xs0.length = n0) (h0 : BytesIn w p0 n0 xs0) :
    Calls Try.prog 5 #[.agg #[.int .i64 k0, .string s0, .int .i64 t0, .int .i64 d0, .slice p0 n0 q0]] w fun e w' => e = .returned (.bool true) ∧ Below w.heap.size w w' := by
  have hn0 : n0 ≤ 1048576 := by omega
  have hsz : s0.size ≤ 1048576 := by omega
  obtain ⟨M, LL, hM, CS, CI⟩ : ∃ (M : Nat) (LL : List Int), M ≤ 1578 ∧ (∀ (p : Option Addr) (c : Nat) (X : World) (lo hi : Nat), Own 5 X lo hi (.slice p n0 c) n0 xs0 → Calls Try.prog 32 #[.agg #[.int .i64 k0, .string s0, .int .i64 t0, .int .i64 d0, .slice p n0 c]] X fun e w' => ∃ p' c', e = .returned (.slice p' M c') ∧ Own 5 w' X.heap.size w'.heap.size (.slice p' M c') M LL ∧ Below X.heap.size X w') ∧ (∀ (p : Option Addr) (c : Nat) (X : World) (lo hi : Nat), Own 5 X lo hi (.slice p n0 c) n0 xs0 → Calls Try.prog 33 #[.agg #[.int .i64 k0, .string s0, .int .i64 t0, .int .i64 d0, .slice p n0 c]] X fun e w' => ∃ p' c', e = .returned (.slice p' M c') ∧ Own 5 w' X.heap.size w'.heap.size (.slice p' M c') M LL ∧ Below X.heap.size X w') :=
    ⟨lineN k0 s0 t0 d0 n0, lineL k0 s0 t0 d0 n0 xs0, lineN_le _ _ _ _ _, fun p c X lo hi o => specLineBytes_any k0 s0 t0 d0 p n0 c xs0 X hsz hn0 hx0 o.bytes, fun p c X lo hi o => implLineBytes_any k0 s0 t0 d0 p n0 c xs0 X hsz hx0 o.bytes⟩
  obtain ⟨W, hW⟩ : ∃ W, W = w.alloc (.cells #[.int .i64 k0, .string s0, .int .i64 t0, .int .i64 d0, .slice p0 n0 q0] 46) := ⟨_, rfl⟩
  have kA : Below w.heap.size w W := made_eq hW
  have Ca : Cells W w.heap.size #[.int .i64 k0, .string s0, .int .i64 t0, .int .i64 d0, .slice p0 n0 q0] := by rw [hW]; exact Cells.made _ _ _
  have la0 : W.cell? ⟨w.heap.size, 0, none⟩ = some (.int .i64 k0) := (Ca.2 0).1
  have la1 : W.cell? ⟨w.heap.size, 1, none⟩ = some (.string s0) := (Ca.2 1).1
  have la2 : W.cell? ⟨w.heap.size, 2, none⟩ = some (.int .i64 t0) := (Ca.2 2).1
  have la3 : W.cell? ⟨w.heap.size, 3, none⟩ = some (.int .i64 d0) := (Ca.2 3).1
  have la4 : W.cell? ⟨w.heap.size, 4, none⟩ = some (.slice p0 n0 q0) := (Ca.2 4).1
  replace h0 := in_below h0 kA
  replace hW : Hid (w.alloc (.cells #[.int .i64 k0, .string s0, .int .i64 t0, .int .i64 d0, .slice p0 n0 q0] 46) = W) := hW.symm
  go_enter Try.func5, Try.ntmps5
  go_wp2_with (rw [hW.out])
  obtain ⟨Ba, hBa⟩ : ∃ B, B = w.heap.size := ⟨_, rfl⟩
  rw [← hBa] at Ca la0 la1 la2 la3 la4 ⊢
  have va : Ba < W.heap.size := Ca.1
  clear hBa
  refine (szLine_any k0 s0 t0 d0 p0 n0 q0 1048576 _ (by omega) (by omega) (by omega)).mono ?_
  clear la0 la1 la2 la3 la4
  rintro e w1 ⟨rfl, b1⟩
  obtain ⟨left, hleft⟩ : ∃ l : Int, l = szI s0 n0 1048576 := ⟨_, rfl⟩
  rw [← hleft]
  have hl2 : ¬ left < 0 := by rw [hleft, szI, if_pos (by omega)]; omega
  clear hleft
  have k1 : Below W.heap.size W w1 := b1
  have z1 := b1.size
  replace Ca := Ca.on b1
  have la0 : w1.cell? ⟨Ba, 0, none⟩ = some (.int .i64 k0) := (Ca.2 0).1
  have la1 : w1.cell? ⟨Ba, 1, none⟩ = some (.string s0) := (Ca.2 1).1
  have la2 : w1.cell? ⟨Ba, 2, none⟩ = some (.int .i64 t0) := (Ca.2 2).1
  have la3 : w1.cell? ⟨Ba, 3, none⟩ = some (.int .i64 d0) := (Ca.2 3).1
  have la4 : w1.cell? ⟨Ba, 4, none⟩ = some (.slice p0 n0 q0) := (Ca.2 4).1
  go_wp2_with (fail)
  refine (toLine_own k0 s0 t0 d0 p0 n0 q0 xs0 _ hn0 hx0 (in_below h0 k1)).mono ?_
  rintro e w2 ⟨pa, ca, rfl, ra, b2⟩
  clear la0 la1 la2 la3 la4
  have k2 := below_on k1 b2
  have z2 := b2.size
  replace Ca := Ca.on b2
  clear b2
  go_wp2_with (fail)
  refine (CS pa ca _ _ _ ra).mono ?_
  rintro e w3 ⟨pw, cw, rfl, rw_, b3⟩
  have k3 := below_on k2 b3
  have z3 := b3.size
  replace ra := ra.on b3
  replace Ca := Ca.on b3
  clear b3
  clear ra
  have la0 : w3.cell? ⟨Ba, 0, none⟩ = some (.int .i64 k0) := (Ca.2 0).1
  have la1 : w3.cell? ⟨Ba, 1, none⟩ = some (.string s0) := (Ca.2 1).1
  have la2 : w3.cell? ⟨Ba, 2, none⟩ = some (.int .i64 t0) := (Ca.2 2).1
  have la3 : w3.cell? ⟨Ba, 3, none⟩ = some (.int .i64 d0) := (Ca.2 3).1
  have la4 : w3.cell? ⟨Ba, 4, none⟩ = some (.slice p0 n0 q0) := (Ca.2 4).1
  go_wp2_with (fail)
  refine (toLine_own k0 s0 t0 d0 p0 n0 q0 xs0 _ hn0 hx0 (in_below h0 k3)).mono ?_
  rintro e w4 ⟨px, cx, rfl, rx, b4⟩
  clear la0 la1 la2 la3 la4
  have k4 := below_on k3 b4
  have z4 := b4.size
  replace rw_ := rw_.on b4
  replace Ca := Ca.on b4
  clear b4
  obtain ⟨w5, hw5⟩ : ∃ X, X = w4.alloc (.cells #[.int .i64 k0, .string s0, .int .i64 t0, .int .i64 d0, .slice px n0 cx] 49) := ⟨_, rfl⟩
  have b5 : Below w4.heap.size w4 w5 := made_eq hw5
  have Cx : Cells w5 w4.heap.size #[.int .i64 k0, .string s0, .int .i64 t0, .int .i64 d0, .slice px n0 cx] := by rw [hw5]; exact Cells.made _ _ _
  replace hw5 : Hid (w4.alloc (.cells #[.int .i64 k0, .string s0, .int .i64 t0, .int .i64 d0, .slice px n0 cx] 49) = w5) := hw5.symm
  have k5 := below_on k4 b5
  have z5 := b5.size
  replace rw_ := rw_.on b5
  replace rx := rx.on b5
  replace Ca := Ca.on b5
  clear b5
  have lx0 : w5.cell? ⟨w4.heap.size, 0, none⟩ = some (.int .i64 k0) := (Cx.2 0).1
  have lx1 : w5.cell? ⟨w4.heap.size, 1, none⟩ = some (.string s0) := (Cx.2 1).1
  have lx2 : w5.cell? ⟨w4.heap.size, 2, none⟩ = some (.int .i64 t0) := (Cx.2 2).1
  have lx3 : w5.cell? ⟨w4.heap.size, 3, none⟩ = some (.int .i64 d0) := (Cx.2 3).1
  have lx4 : w5.cell? ⟨w4.heap.size, 4, none⟩ = some (.slice px n0 cx) := (Cx.2 4).1
  go_wp2_with (rw [hw5.out])
  clear hw5
  obtain ⟨Bx, hBx⟩ : ∃ X, X = w4.heap.size := ⟨_, rfl⟩
  have vx : w4.heap.size ≤ Bx ∧ Bx < w5.heap.size := by rw [hBx]; exact ⟨Nat.le_refl _, Cx.1⟩
  rw [← hBx] at Cx lx0 lx1 lx2 lx3 lx4 ⊢
  clear hBx
  refine (CI px cx _ _ _ rx).mono ?_
  rintro e w6 ⟨pg, cg, rfl, rg, b6⟩
  clear lx0 lx1 lx2 lx3 lx4
  have k6 := below_on k5 b6
  have z6 := b6.size
  replace rw_ := rw_.on b6
  replace rx := rx.on b6
  replace Ca := Ca.on b6
  replace Cx := Cx.on b6
  clear b6
  go_wp2_with (fail)
  refine (eqByteS_any pg pw M M cg cw LL LL _ (by omega) rg.len rw_.len rg.bytes rw_.bytes).mono ?_
  rintro e w7 ⟨rfl, b7⟩
  have k7 := below_on k6 b7
  have z7 := b7.size
  replace rw_ := rw_.on b7
  replace rx := rx.on b7
  replace rg := rg.on b7
  replace Ca := Ca.on b7
  replace Cx := Cx.on b7
  clear b7
  rw [decide_eq_true rfl]
  have HK : ∀ w', Below w7.heap.size w7 w' → w'.cell? ⟨Ba, 0, none⟩ = some (.int .i64 k0) ∧ w'.cell? ⟨Ba, 1, none⟩ = some (.string s0) ∧ w'.cell? ⟨Ba, 2, none⟩ = some (.int .i64 t0) ∧ w'.cell? ⟨Ba, 3, none⟩ = some (.int .i64 d0) ∧ w'.cell? ⟨Ba, 4, none⟩ = some (.slice p0 n0 q0) ∧ w'.cell? ⟨Bx, 0, none⟩ = some (.int .i64 k0) ∧ w'.cell? ⟨Bx, 1, none⟩ = some (.string s0) ∧ w'.cell? ⟨Bx, 2, none⟩ = some (.int .i64 t0) ∧ w'.cell? ⟨Bx, 3, none⟩ = some (.int .i64 d0) ∧ w'.cell? ⟨Bx, 4, none⟩ = some (.slice px n0 cx) := fun w' hX => ⟨((Ca.on hX).2 0).1, ((Ca.on hX).2 1).1, ((Ca.on hX).2 2).1, ((Ca.on hX).2 3).1, ((Ca.on hX).2 4).1, ((Cx.on hX).2 0).1, ((Cx.on hX).2 1).1, ((Cx.on hX).2 2).1, ((Cx.on hX).2 3).1, ((Cx.on hX).2 4).1⟩
  have bdr : Below w7.heap.size w7 w7.drew := (Below.refl _ _).drew
  have kdr := below_on k7 bdr
  go_wp2_with (fail)
  go_region_held3 (fun w' => w'.cell? ⟨Ba, 0, none⟩ = some (.int .i64 k0) ∧ w'.cell? ⟨Ba, 1, none⟩ = some (.string s0) ∧ w'.cell? ⟨Ba, 2, none⟩ = some (.int .i64 t0) ∧ w'.cell? ⟨Ba, 3, none⟩ = some (.int .i64 d0) ∧ w'.cell? ⟨Ba, 4, none⟩ = some (.slice p0 n0 q0) ∧ w'.cell? ⟨Bx, 0, none⟩ = some (.int .i64 k0) ∧ w'.cell? ⟨Bx, 1, none⟩ = some (.string s0) ∧ w'.cell? ⟨Bx, 2, none⟩ = some (.int .i64 t0) ∧ w'.cell? ⟨Bx, 3, none⟩ = some (.int .i64 d0) ∧ w'.cell? ⟨Bx, 4, none⟩ = some (.slice px n0 cx)) (exact HK _ (by repeat (with_reducible (first | exact Below.refl _ _ | refine below_drewL ?_ | refine below_on ?_ bq1 | refine below_on ?_ bq2)))) (first | (go_at_call 29; refine (toLine_own k0 s0 t0 d0 p0 n0 q0 xs0 _ hn0 hx0 (in_below h0 kdr)).mono ?_; rintro z wq ⟨pq, cq, rfl, rq, bq1⟩) | (go_at_call 31; refine (eqLine_any k0 k0 s0 s0 t0 t0 d0 d0 px _ n0 cx n0 _ xs0 xs0 _ (by omega) rx.len rq.len ((rx.on bdr).on bq1).bytes rq.bytes).mono ?_; rintro z w8 ⟨rfl, bq2⟩))
  have b8 : Below w7.heap.size w7 w8 := below_on (below_on bdr bq1) bq2
  clear bq1 bq2 bdr kdr HK rq
  have k8 := below_on k7 b8
  have z8 := b8.size
  replace rw_ := rw_.on b8
  replace rx := rx.on b8
  replace rg := rg.on b8
  replace Ca := Ca.on b8
  replace Cx := Cx.on b8
  clear b8
  have eT : decide (k0 = k0 ∧ s0 = s0 ∧ t0 = t0 ∧ d0 = d0 ∧ xs0 = xs0) = true := by simp
  have lx0 : w8.cell? ⟨Bx, 0, none⟩ = some (.int .i64 k0) := (Cx.2 0).1
  have lx1 : w8.cell? ⟨Bx, 1, none⟩ = some (.string s0) := (Cx.2 1).1
  have lx2 : w8.cell? ⟨Bx, 2, none⟩ = some (.int .i64 t0) := (Cx.2 2).1
  have lx3 : w8.cell? ⟨Bx, 3, none⟩ = some (.int .i64 d0) := (Cx.2 3).1
  have lx4 : w8.cell? ⟨Bx, 4, none⟩ = some (.slice px n0 cx) := (Cx.2 4).1
  go_wp2_with (fail)
  refine (markLine_own w3.heap.size w4.heap.size k0 s0 t0 d0 px n0 cx xs0 1 _ (by omega) (by omega) (by omega) rx).mono ?_
  rintro e w9 ⟨rfl, q9, W9⟩
  clear lx0 lx1 lx2 lx3 lx4
  have k9 := W9.low k8 (by omega) (by omega)
  have z9 := W9.size
  replace rw_ := rw_.past13 W9 (by omega)
  replace rg := rg.past13 W9 (by omega)
  replace Ca := Ca.past13 W9 (by omega)
  replace Cx := Cx.past13 W9 (by omega)
  clear rx
  have rx := q9
  clear q9 W9
  have hk1 : ¬ (1 : Int) + (n0 : Int) < 0 := by omega
  go_wp2_with (fail)
  refine (eqByteS_any pg pw M M cg cw LL LL _ (by omega) rg.len rw_.len rg.bytes rw_.bytes).mono ?_
  rintro e w10 ⟨rfl, b10⟩
  have k10 := below_on k9 b10
  have z10 := b10.size
  replace rw_ := rw_.on b10
  replace rx := rx.on b10
  replace rg := rg.on b10
  replace Ca := Ca.on b10
  replace Cx := Cx.on b10
  clear b10
  rw [decide_eq_true rfl]
  clear rx
  go_wp2_with (fail)
  refine (markByteS_own w5.heap.size w6.heap.size pg M cg LL 1 _ (by omega) (by omega) (by omega) rg).mono ?_
  rintro e w11 ⟨rfl, q11, G11⟩
  have W11 : Within w5.heap.size w6.heap.size w10 w11 := (Within.refl _ _ _).grown G11 (fun q hq => ⟨(rg.1.lt q hq).1, rg.2 q hq⟩)
  clear G11
  have k11 := W11.low k10 (by omega) (by omega)
  have z11 := W11.size
  replace rw_ := rw_.past13 W11 (by omega)
  replace Ca := Ca.past13 W11 (by omega)
  replace Cx := Cx.past13 W11 (by omega)
  clear rg
  have rg := q11
  clear q11 W11
  have hm1 : ¬ (1 : Int) + (M : Int) < 0 := by omega
  go_wp2_with (fail)
  refine (heldByteS_any pg M cg 1 _ (by omega) (by omega) (by omega) rg.bytes).mono ?_
  rintro e w12 ⟨rfl, b12⟩
  have k12 := below_on k11 b12
  have z12 := b12.size
  replace rw_ := rw_.on b12
  replace rg := rg.on b12
  replace Ca := Ca.on b12
  replace Cx := Cx.on b12
  clear b12
  have la0 : w12.cell? ⟨Ba, 0, none⟩ = some (.int .i64 k0) := (Ca.2 0).1
  have la1 : w12.cell? ⟨Ba, 1, none⟩ = some (.string s0) := (Ca.2 1).1
  have la2 : w12.cell? ⟨Ba, 2, none⟩ = some (.int .i64 t0) := (Ca.2 2).1
  have la3 : w12.cell? ⟨Ba, 3, none⟩ = some (.int .i64 d0) := (Ca.2 3).1
  have la4 : w12.cell? ⟨Ba, 4, none⟩ = some (.slice p0 n0 q0) := (Ca.2 4).1
  go_wp2_with (fail)
  refine (toLine_own k0 s0 t0 d0 p0 n0 q0 xs0 _ hn0 hx0 (in_below h0 k12)).mono ?_
  rintro e w13 ⟨pc, cc, rfl, rc, b13⟩
  clear la0 la1 la2 la3 la4
  have k13 := below_on k12 b13
  have z13 := b13.size
  replace rw_ := rw_.on b13
  replace rg := rg.on b13
  replace Ca := Ca.on b13
  replace Cx := Cx.on b13
  clear b13
  go_wp2_with (fail)
  refine (CI pc cc _ _ _ rc).mono ?_
  rintro e w14 ⟨ph, ch, rfl, rh, b14⟩
  have k14 := below_on k13 b14
  have z14 := b14.size
  replace rw_ := rw_.on b14
  replace rg := rg.on b14
  replace rc := rc.on b14
  replace Ca := Ca.on b14
  replace Cx := Cx.on b14
  clear b14
  clear rc
  go_wp2_with (fail)
  refine (eqByteS_any ph pw M M ch cw LL LL _ (by omega) rh.len rw_.len rh.bytes rw_.bytes).mono ?_
  rintro e w15 ⟨rfl, b15⟩
  have k15 := below_on k14 b15
  have z15 := b15.size
  replace rw_ := rw_.on b15
  replace rg := rg.on b15
  replace rh := rh.on b15
  replace Ca := Ca.on b15
  replace Cx := Cx.on b15
  clear b15
  rw [decide_eq_true rfl]
  go_wp2_with (fail)
  refine (heldByteS_any pg M cg 1 _ (by omega) (by omega) (by omega) rg.bytes).mono ?_
  rintro e w16 ⟨rfl, b16⟩
  have k16 := below_on k15 b16
  have z16 := b16.size
  replace rw_ := rw_.on b16
  replace rg := rg.on b16
  replace rh := rh.on b16
  replace Ca := Ca.on b16
  replace Cx := Cx.on b16
  clear b16
  go_wp2_with (fail)
  go_ret
  exact ⟨rfl, below_on kA k16⟩

theorem lineBytes_law (k0 : Int) (s0 : ByteArray) (t0 d0 : Int) (p0 : Option Addr) (n0 q0 : Nat) (xs0 : List Int) (w : World) (hl0 : s0.size ≤ 9223372036854775807) (hl1 : n0 ≤ 9223372036854775807) (hx0 : xs0.length = n0) (h0 : BytesIn w p0 n0 xs0) :
    Calls Try.prog 5 #[.agg #[.int .i64 k0, .string s0, .int .i64 t0, .int .i64 d0, .slice p0 n0 q0]] w fun e w' => e = .returned (.bool true) ∧ Below w.heap.size w w' := by
  by_cases hs : s0.size + n0 ≤ 1048576
  · exact lineBytes_small k0 s0 t0 d0 p0 n0 q0 xs0 w hs hx0 h0
  · have C := fun X => szLine_any k0 s0 t0 d0 p0 n0 q0 1048576 X hl0 hl1 (by omega)
    have e1 : szI s0 n0 1048576 = -1 := by unfold szI; rw [if_neg (by omega)]
    rw [e1] at C
    have kA : ∀ o, Below w.heap.size w (w.alloc o) := fun o => made_below _ _ (Below.refl _ _)
    clear h0 hx0 e1 hs
    go_enter Try.func5, Try.ntmps5
    go_wp2_with (fail)
    refine (C _).mono ?_
    rintro e w1 ⟨rfl, b1⟩
    go_wp2_with (fail)
    go_ret
    exact ⟨rfl, below_on (kA _) b1⟩

end Go.Proofs.Ytkdbcplcpcdnbaa
