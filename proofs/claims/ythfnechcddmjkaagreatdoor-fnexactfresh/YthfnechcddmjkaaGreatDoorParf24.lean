/-
  FnExactFresh returns true for any world, and writes nothing that was there; conditions: a world that can be read, and the table of the rounds' numbers is as its text says.
-/
import Derived.Test.YthfnechcddmjkaaGreatDoorParf23
import Derived.Test.YthfnechcddmjkaaGreatDoorParf20
import Derived.Test.YthfnechcddmjkaaGreatDoorParf21
namespace Go.Proofs.YthfnechcddmjkaaGreatDoor
open Go.RowKit
set_option maxRecDepth 100000

theorem totF_con {xs ys : List Rc} (h : xs.map Rc.con = ys.map Rc.con) (hx : ∀ x ∈ xs, ∀ f ∈ x, ∀ r, f = Fd.r r → r.xs.length = r.n) (hy : ∀ x ∈ ys, ∀ f ∈ x, ∀ r, f = Fd.r r → r.xs.length = r.n) : totF xs = totF ys := by
  induction xs generalizing ys with
  | nil => cases ys with
    | nil => rfl
    | cons b s => simp at h
  | cons a r ih => cases ys with
    | nil => simp at h
    | cons b s =>
      simp only [List.map_cons, List.cons.injEq] at h
      have e1 : totF (a :: r) = Rc.tot a + totF r := by simp [totF]
      have e2 : totF (b :: s) = Rc.tot b + totF s := by simp [totF]
      rw [e1, e2, con_tot h.1 (hx a (List.mem_cons_self ..)) (hy b (List.mem_cons_self ..)), ih h.2 (fun x hm => hx x (List.mem_cons_of_mem _ hm)) (fun x hm => hy x (List.mem_cons_of_mem _ hm))]
theorem RecA.rows {w : World} {c n : Nat} {Sh : Rc → Prop} {p : Option Addr} {xs : List Rc} (h : RecA w c Sh p n xs) : ∀ x ∈ xs, ∀ f ∈ x, ∀ r, f = Fd.r r → r.xs.length = r.n := fun x hx f hf r e => by
  subst e
  exact RwA.Ok.len (show RwA.Ok w r from h.fld x hx _ hf)
theorem cost_copy {w w' : World} {lo hi c n : Nat} {Sh : Rc → Prop} {p q : Option Addr} {xs ys : List Rc} (h : RecA w c Sh p n xs) (h' : RecP w' lo hi c Sh q n ys) (e : Hid (ys.map Rc.con = xs.map Rc.con)) (hl : ∀ x, Sh x → x.length = c) : costF ys ≤ totF xs + n * c := by
  have h1 := costF_tot ys c fun x hx => hl x (h'.sh x hx)
  rw [h'.len, totF_con e.out h'.arg.rows h.rows] at h1
  exact h1

set_option maxHeartbeats 16000000 in
theorem fresh_law (pj : Option Addr) (nj cj : Nat) (cn : Int) (kn : Int) (pq : Option Addr) (nq cq : Nat) (t : Int) (pb : Option Addr) (nb cb : Nat) (u : Int) (ps : Option Addr) (ns cs : Nat) (e : Int) (pv : Option Addr) (nv cv : Nat) (pg : Option Addr) (ng cg : Nat) (pw : Option Addr) (nw cw : Nat) (pz : Option Addr) (nz cz : Nat) (xj : List Int) (xq : List Rc) (xb : List Int) (xs : List Int) (xv : List Rc) (xg : List Rc) (xw : List Rc) (xz : List Rc) (w : World) (okj : RwA.Ok w ⟨pj, nj, cj, xj⟩) (okq : RecA w 4 ItemSh pq nq xq) (okb : RwA.Ok w ⟨pb, nb, cb, xb⟩) (oks : RwA.Ok w ⟨ps, ns, cs, xs⟩) (okv : RecA w 1 RowSh pv nv xv) (okg : RecA w 1 RowSh pg ng xg) (okw : RecA w 6 WireSh pw nw xw) (okz : RecA w 4 SentSh pz nz xz) (hcn : cn ≤ 9223372036854775807) (hK : KeysIs w) :
    Calls Tryz.prog 4 #[.agg #[.slice pj nj cj, .int .i64 cn, .int .i64 kn, .slice pq nq cq, .int .i64 t, .slice pb nb cb, .int .i64 u, .slice ps ns cs, .int .i64 e, .slice pv nv cv, .slice pg ng cg, .slice pw nw cw, .slice pz nz cz]] w fun e w' => e = .returned (.bool true) ∧ Below w.heap.size w w' := by
  have b0 : ∀ o, Below w.heap.size w (w.alloc o) := fun o => (Below.refl _ _).alloc (Nat.le_refl _) o
  have CS := fun X (k : Below w.heap.size w X) => szWorldF_any pj nj cj cn kn pq nq cq t pb nb cb u ps ns cs e pv nv cv pg ng cg pw nw cw pz nz cz xj xq xb xs xv xg xw xz 1048576 X (okj.on k) (okq.on k) (okb.on k) (oks.on k) (okv.on k) (okg.on k) (okw.on k) (okz.on k) (by omega)
  obtain ⟨TT, hTT⟩ : ∃ T : Nat, T = nj + ((nq + totF xq) + nb) + (ns + (nv + totF xv) + (ng + totF xg)) + (nw + totF xw) + (nz + totF xz) := ⟨_, rfl⟩
  rw [← hTT] at CS
  by_cases hT : (TT : Int) ≤ 1048576
  · rw [if_pos hT] at CS
    obtain ⟨r, hr⟩ : ∃ r : Int, r = 1048576 - (TT : Int) := ⟨_, rfl⟩
    rw [← hr] at CS
    have hr0 : ¬ r < 0 := by omega
    have fj : nj ≤ 1048576 := by omega
    have fq : nq ≤ 1048576 := by omega
    have tq : nq + totF xq ≤ 1048576 := by omega
    have gq : ∀ x ∈ xq, ∀ f ∈ x, f.fit := fit_of (T := totF xq) (Nat.le_refl _) (by omega)
    have fb : nb ≤ 1048576 := by omega
    have fs : ns ≤ 1048576 := by omega
    have fv : nv ≤ 1048576 := by omega
    have tv : nv + totF xv ≤ 1048576 := by omega
    have gv : ∀ x ∈ xv, ∀ f ∈ x, f.fit := fit_of (T := totF xv) (Nat.le_refl _) (by omega)
    have fg : ng ≤ 1048576 := by omega
    have tg : ng + totF xg ≤ 1048576 := by omega
    have gg : ∀ x ∈ xg, ∀ f ∈ x, f.fit := fit_of (T := totF xg) (Nat.le_refl _) (by omega)
    have fw : nw ≤ 1048576 := by omega
    have tw : nw + totF xw ≤ 1048576 := by omega
    have gw : ∀ x ∈ xw, ∀ f ∈ x, f.fit := fit_of (T := totF xw) (Nat.le_refl _) (by omega)
    have fz : nz ≤ 1048576 := by omega
    have tz : nz + totF xz ≤ 1048576 := by omega
    have gz : ∀ x ∈ xz, ∀ f ∈ x, f.fit := fit_of (T := totF xz) (Nat.le_refl _) (by omega)
    have hfn := freN_le nj cn
    have CT := fun X (k : Below w.heap.size w X) => toWorldF_own pj nj cj cn kn pq nq cq t pb nb cb u ps ns cs e pv nv cv pg ng cg pw nw cw pz nz cz xj xq xb xs xv xg xw xz X (okj.on k) (okq.on k) (okb.on k) (oks.on k) (okv.on k) (okg.on k) (okw.on k) (okz.on k) fj fq gq fb fs fv gv fg gg fw gw fz gz
    have CF := fun (qj qq qb qs qv qg qw qz : Option Addr) (dj dq db ds dv dg dw dz : Nat) (X : World) (i : BytesIn X qj nj xj) => specFresh_any qj qq qb qs qv qg qw qz nj dj nq dq nb db ns ds nv dv ng dg nw dw nz dz cn kn t u e xj X okj.len i okj.byte hcn
    have CI := fun (qj qq qb qs qv qg qw qz : Option Addr) (dj dq db ds dv dg dw dz : Nat) (X : World) (i : BytesIn X qj nj xj) (k : KeysIs X) => implFresh_any qj qq qb qs qv qg qw qz nj dj nq dq nb db ns ds nv dv ng dg nw dw nz dz cn kn t u e xj X okj.len i okj.byte hcn k
    generalize freN nj cn = FN at CF CI hfn
    generalize freL xj cn = FL at CF CI
    clear hr hT hTT
    go_enter Tryz.func4, Tryz.ntmps4
    go_wp2_with (fail)
    refine (CS _ (b0 _)).mono ?_
    rintro z w1 ⟨rfl, b1⟩
    have CA := (Cells.made w _ _).on b1
    have k1 := below_on (b0 _) b1
    have z1 := k1.size
    have zA : w.heap.size < w1.heap.size := CA.1
    clear b1 CS b0
    have lA0 : w1.cell? ⟨w.heap.size, 0, none⟩ = some (.slice pj nj cj) := (CA.2 0).1
    have lA1 : w1.cell? ⟨w.heap.size, 1, none⟩ = some (.int .i64 cn) := (CA.2 1).1
    have lA2 : w1.cell? ⟨w.heap.size, 2, none⟩ = some (.int .i64 kn) := (CA.2 2).1
    have lA3 : w1.cell? ⟨w.heap.size, 3, none⟩ = some (.slice pq nq cq) := (CA.2 3).1
    have lA4 : w1.cell? ⟨w.heap.size, 4, none⟩ = some (.int .i64 t) := (CA.2 4).1
    have lA5 : w1.cell? ⟨w.heap.size, 5, none⟩ = some (.slice pb nb cb) := (CA.2 5).1
    have lA6 : w1.cell? ⟨w.heap.size, 6, none⟩ = some (.int .i64 u) := (CA.2 6).1
    have lA7 : w1.cell? ⟨w.heap.size, 7, none⟩ = some (.slice ps ns cs) := (CA.2 7).1
    have lA8 : w1.cell? ⟨w.heap.size, 8, none⟩ = some (.int .i64 e) := (CA.2 8).1
    have lA9 : w1.cell? ⟨w.heap.size, 9, none⟩ = some (.slice pv nv cv) := (CA.2 9).1
    have lA10 : w1.cell? ⟨w.heap.size, 10, none⟩ = some (.slice pg ng cg) := (CA.2 10).1
    have lA11 : w1.cell? ⟨w.heap.size, 11, none⟩ = some (.slice pw nw cw) := (CA.2 11).1
    have lA12 : w1.cell? ⟨w.heap.size, 12, none⟩ = some (.slice pz nz cz) := (CA.2 12).1
    go_wp2_with (fail)
    clear lA0 lA1 lA2 lA3 lA4 lA5 lA6 lA7 lA8 lA9 lA10 lA11 lA12
    refine (CT _ k1).mono ?_
    rintro z w2 ⟨qj1, dj1, qq1, dq1, yq1, qb1, db1, qs1, ds1, qv1, dv1, yv1, qg1, dg1, yg1, qw1, dw1, yw1, qz1, dz1, yz1, Kj1, Kq1, Kb1, Ks1, Kv1, Kg1, Kw1, rfl, Pj1, Pq1, Pb1, Ps1, Pv1, Pg1, Pw1, Pz1, s1_0, s1_1, s1_2, s1_3, s1_4, s1_5, s1_6, s1_7, hq1, hv1, hg1, hw1, hz1, b2⟩
    have k2 : Below w.heap.size w w2 := below_on k1 b2
    have z2 := b2.size
    replace CA := CA.on b2
    clear Pq1 Pb1 Ps1 Pv1 Pg1 Pw1 Pz1 hq1 hv1 hg1 hw1 hz1 s1_0 s1_1 s1_2 s1_3 s1_4 s1_5 s1_6 s1_7
    go_wp2_with (fail)
    refine (CF qj1 qq1 qb1 qs1 qv1 qg1 qw1 qz1 dj1 dq1 db1 ds1 dv1 dg1 dw1 dz1 _ Pj1.ok.bytes).mono ?_
    rintro e w3 ⟨pr1, cr1, rfl, r1, b3⟩
    have k3 : Below w.heap.size w w3 := below_on k2 b3
    have z3 := b3.size
    replace CA := CA.on b3
    clear Pj1
    have lA0 : w3.cell? ⟨w.heap.size, 0, none⟩ = some (.slice pj nj cj) := (CA.2 0).1
    have lA1 : w3.cell? ⟨w.heap.size, 1, none⟩ = some (.int .i64 cn) := (CA.2 1).1
    have lA2 : w3.cell? ⟨w.heap.size, 2, none⟩ = some (.int .i64 kn) := (CA.2 2).1
    have lA3 : w3.cell? ⟨w.heap.size, 3, none⟩ = some (.slice pq nq cq) := (CA.2 3).1
    have lA4 : w3.cell? ⟨w.heap.size, 4, none⟩ = some (.int .i64 t) := (CA.2 4).1
    have lA5 : w3.cell? ⟨w.heap.size, 5, none⟩ = some (.slice pb nb cb) := (CA.2 5).1
    have lA6 : w3.cell? ⟨w.heap.size, 6, none⟩ = some (.int .i64 u) := (CA.2 6).1
    have lA7 : w3.cell? ⟨w.heap.size, 7, none⟩ = some (.slice ps ns cs) := (CA.2 7).1
    have lA8 : w3.cell? ⟨w.heap.size, 8, none⟩ = some (.int .i64 e) := (CA.2 8).1
    have lA9 : w3.cell? ⟨w.heap.size, 9, none⟩ = some (.slice pv nv cv) := (CA.2 9).1
    have lA10 : w3.cell? ⟨w.heap.size, 10, none⟩ = some (.slice pg ng cg) := (CA.2 10).1
    have lA11 : w3.cell? ⟨w.heap.size, 11, none⟩ = some (.slice pw nw cw) := (CA.2 11).1
    have lA12 : w3.cell? ⟨w.heap.size, 12, none⟩ = some (.slice pz nz cz) := (CA.2 12).1
    go_wp2_with (fail)
    clear lA0 lA1 lA2 lA3 lA4 lA5 lA6 lA7 lA8 lA9 lA10 lA11 lA12
    refine (CT _ k3).mono ?_
    rintro z w4 ⟨qj2, dj2, qq2, dq2, yq2, qb2, db2, qs2, ds2, qv2, dv2, yv2, qg2, dg2, yg2, qw2, dw2, yw2, qz2, dz2, yz2, Kj2, Kq2, Kb2, Ks2, Kv2, Kg2, Kw2, rfl, Pj2, Pq2, Pb2, Ps2, Pv2, Pg2, Pw2, Pz2, s2_0, s2_1, s2_2, s2_3, s2_4, s2_5, s2_6, s2_7, hq2, hv2, hg2, hw2, hz2, b4⟩
    have k4 : Below w.heap.size w w4 := below_on k3 b4
    have z4 := b4.size
    replace r1 := r1.on b4
    replace CA := CA.on b4
    have hcost : 1 + (nj + (costF yq2 + nb) + (ns + costF yv2 + costF yg2) + costF yw2 + costF yz2) ≤ 100000000 := by
      have cq := cost_copy okq Pq2 hq2 item_len
      have cv := cost_copy okv Pv2 hv2 row_len
      have cg := cost_copy okg Pg2 hg2 row_len
      have cw := cost_copy okw Pw2 hw2 wire_len
      have cz := cost_copy okz Pz2 hz2 sent_len
      omega
    obtain ⟨w5, hw5⟩ : ∃ X, X = w4.alloc (.cells #[.slice qj2 nj dj2, .int .i64 cn, .int .i64 kn, .slice qq2 nq dq2, .int .i64 t, .slice qb2 nb db2, .int .i64 u, .slice qs2 ns ds2, .int .i64 e, .slice qv2 nv dv2, .slice qg2 ng dg2, .slice qw2 nw dw2, .slice qz2 nz dz2] 32) := ⟨_, rfl⟩
    have b5 : Below w4.heap.size w4 w5 := by rw [hw5]; exact made_below _ _ (Below.refl _ _)
    have CX : Cells w5 w4.heap.size #[.slice qj2 nj dj2, .int .i64 cn, .int .i64 kn, .slice qq2 nq dq2, .int .i64 t, .slice qb2 nb db2, .int .i64 u, .slice qs2 ns ds2, .int .i64 e, .slice qv2 nv dv2, .slice qg2 ng dg2, .slice qw2 nw dw2, .slice qz2 nz dz2] := by rw [hw5]; exact Cells.made _ _ _
    replace hw5 : Hid (w4.alloc (.cells #[.slice qj2 nj dj2, .int .i64 cn, .int .i64 kn, .slice qq2 nq dq2, .int .i64 t, .slice qb2 nb db2, .int .i64 u, .slice qs2 ns ds2, .int .i64 e, .slice qv2 nv dv2, .slice qg2 ng dg2, .slice qw2 nw dw2, .slice qz2 nz dz2] 32) = w5) := hw5.symm
    have k5 : Below w.heap.size w w5 := below_on k4 b5
    have z5 := b5.size
    replace r1 := r1.on b5
    replace CA := CA.on b5
    have kx5 := b5
    have lX0 : w5.cell? ⟨w4.heap.size, 0, none⟩ = some (.slice qj2 nj dj2) := (CX.2 0).1
    have lX1 : w5.cell? ⟨w4.heap.size, 1, none⟩ = some (.int .i64 cn) := (CX.2 1).1
    have lX2 : w5.cell? ⟨w4.heap.size, 2, none⟩ = some (.int .i64 kn) := (CX.2 2).1
    have lX3 : w5.cell? ⟨w4.heap.size, 3, none⟩ = some (.slice qq2 nq dq2) := (CX.2 3).1
    have lX4 : w5.cell? ⟨w4.heap.size, 4, none⟩ = some (.int .i64 t) := (CX.2 4).1
    have lX5 : w5.cell? ⟨w4.heap.size, 5, none⟩ = some (.slice qb2 nb db2) := (CX.2 5).1
    have lX6 : w5.cell? ⟨w4.heap.size, 6, none⟩ = some (.int .i64 u) := (CX.2 6).1
    have lX7 : w5.cell? ⟨w4.heap.size, 7, none⟩ = some (.slice qs2 ns ds2) := (CX.2 7).1
    have lX8 : w5.cell? ⟨w4.heap.size, 8, none⟩ = some (.int .i64 e) := (CX.2 8).1
    have lX9 : w5.cell? ⟨w4.heap.size, 9, none⟩ = some (.slice qv2 nv dv2) := (CX.2 9).1
    have lX10 : w5.cell? ⟨w4.heap.size, 10, none⟩ = some (.slice qg2 ng dg2) := (CX.2 10).1
    have lX11 : w5.cell? ⟨w4.heap.size, 11, none⟩ = some (.slice qw2 nw dw2) := (CX.2 11).1
    have lX12 : w5.cell? ⟨w4.heap.size, 12, none⟩ = some (.slice qz2 nz dz2) := (CX.2 12).1
    go_wp2_with (first | rw [hw5.out])
    clear lX0 lX1 lX2 lX3 lX4 lX5 lX6 lX7 lX8 lX9 lX10 lX11 lX12 hw5
    refine (CI qj2 qq2 qb2 qs2 qv2 qg2 qw2 qz2 dj2 dq2 db2 ds2 dv2 dg2 dw2 dz2 _ (in_below Pj2.ok.bytes kx5) (keys_below hK k5)).mono ?_
    rintro e w6 ⟨pr2, cr2, rfl, r2, b6⟩
    have k6 : Below w.heap.size w w6 := below_on k5 b6
    have z6 := b6.size
    replace r1 := r1.on b6
    replace CA := CA.on b6
    replace CX := CX.on b6
    have kx6 := below_on kx5 b6
    go_wp2_with (fail)
    refine (eqByteS_any pr2 pr1 FN FN cr2 cr1 FL FL _ (by omega) r2.len r1.len r2.bytes r1.bytes).mono ?_
    rintro e w7 ⟨rfl, b7⟩
    have k7 : Below w.heap.size w w7 := below_on k6 b7
    have z7 := b7.size
    replace r1 := r1.on b7
    replace r2 := r2.on b7
    replace CA := CA.on b7
    replace CX := CX.on b7
    have kx7 := below_on kx6 b7
    have HK : ∀ X, Below w7.heap.size w7 X → X.cell? ⟨w.heap.size, 0, none⟩ = some (.slice pj nj cj) ∧ X.cell? ⟨w.heap.size, 1, none⟩ = some (.int .i64 cn) ∧ X.cell? ⟨w.heap.size, 2, none⟩ = some (.int .i64 kn) ∧ X.cell? ⟨w.heap.size, 3, none⟩ = some (.slice pq nq cq) ∧ X.cell? ⟨w.heap.size, 4, none⟩ = some (.int .i64 t) ∧ X.cell? ⟨w.heap.size, 5, none⟩ = some (.slice pb nb cb) ∧ X.cell? ⟨w.heap.size, 6, none⟩ = some (.int .i64 u) ∧ X.cell? ⟨w.heap.size, 7, none⟩ = some (.slice ps ns cs) ∧ X.cell? ⟨w.heap.size, 8, none⟩ = some (.int .i64 e) ∧ X.cell? ⟨w.heap.size, 9, none⟩ = some (.slice pv nv cv) ∧ X.cell? ⟨w.heap.size, 10, none⟩ = some (.slice pg ng cg) ∧ X.cell? ⟨w.heap.size, 11, none⟩ = some (.slice pw nw cw) ∧ X.cell? ⟨w.heap.size, 12, none⟩ = some (.slice pz nz cz) ∧ X.cell? ⟨w4.heap.size, 0, none⟩ = some (.slice qj2 nj dj2) ∧ X.cell? ⟨w4.heap.size, 1, none⟩ = some (.int .i64 cn) ∧ X.cell? ⟨w4.heap.size, 2, none⟩ = some (.int .i64 kn) ∧ X.cell? ⟨w4.heap.size, 3, none⟩ = some (.slice qq2 nq dq2) ∧ X.cell? ⟨w4.heap.size, 4, none⟩ = some (.int .i64 t) ∧ X.cell? ⟨w4.heap.size, 5, none⟩ = some (.slice qb2 nb db2) ∧ X.cell? ⟨w4.heap.size, 6, none⟩ = some (.int .i64 u) ∧ X.cell? ⟨w4.heap.size, 7, none⟩ = some (.slice qs2 ns ds2) ∧ X.cell? ⟨w4.heap.size, 8, none⟩ = some (.int .i64 e) ∧ X.cell? ⟨w4.heap.size, 9, none⟩ = some (.slice qv2 nv dv2) ∧ X.cell? ⟨w4.heap.size, 10, none⟩ = some (.slice qg2 ng dg2) ∧ X.cell? ⟨w4.heap.size, 11, none⟩ = some (.slice qw2 nw dw2) ∧ X.cell? ⟨w4.heap.size, 12, none⟩ = some (.slice qz2 nz dz2) := fun X hX => ⟨((CA.on hX).2 0).1, ((CA.on hX).2 1).1, ((CA.on hX).2 2).1, ((CA.on hX).2 3).1, ((CA.on hX).2 4).1, ((CA.on hX).2 5).1, ((CA.on hX).2 6).1, ((CA.on hX).2 7).1, ((CA.on hX).2 8).1, ((CA.on hX).2 9).1, ((CA.on hX).2 10).1, ((CA.on hX).2 11).1, ((CA.on hX).2 12).1, ((CX.on hX).2 0).1, ((CX.on hX).2 1).1, ((CX.on hX).2 2).1, ((CX.on hX).2 3).1, ((CX.on hX).2 4).1, ((CX.on hX).2 5).1, ((CX.on hX).2 6).1, ((CX.on hX).2 7).1, ((CX.on hX).2 8).1, ((CX.on hX).2 9).1, ((CX.on hX).2 10).1, ((CX.on hX).2 11).1, ((CX.on hX).2 12).1⟩
    have bdr : Below w7.heap.size w7 w7.drew := (Below.refl _ _).drew
    go_wp2_with (fail)
    go_region_held3 (fun X => X.cell? ⟨w.heap.size, 0, none⟩ = some (.slice pj nj cj) ∧ X.cell? ⟨w.heap.size, 1, none⟩ = some (.int .i64 cn) ∧ X.cell? ⟨w.heap.size, 2, none⟩ = some (.int .i64 kn) ∧ X.cell? ⟨w.heap.size, 3, none⟩ = some (.slice pq nq cq) ∧ X.cell? ⟨w.heap.size, 4, none⟩ = some (.int .i64 t) ∧ X.cell? ⟨w.heap.size, 5, none⟩ = some (.slice pb nb cb) ∧ X.cell? ⟨w.heap.size, 6, none⟩ = some (.int .i64 u) ∧ X.cell? ⟨w.heap.size, 7, none⟩ = some (.slice ps ns cs) ∧ X.cell? ⟨w.heap.size, 8, none⟩ = some (.int .i64 e) ∧ X.cell? ⟨w.heap.size, 9, none⟩ = some (.slice pv nv cv) ∧ X.cell? ⟨w.heap.size, 10, none⟩ = some (.slice pg ng cg) ∧ X.cell? ⟨w.heap.size, 11, none⟩ = some (.slice pw nw cw) ∧ X.cell? ⟨w.heap.size, 12, none⟩ = some (.slice pz nz cz) ∧ X.cell? ⟨w4.heap.size, 0, none⟩ = some (.slice qj2 nj dj2) ∧ X.cell? ⟨w4.heap.size, 1, none⟩ = some (.int .i64 cn) ∧ X.cell? ⟨w4.heap.size, 2, none⟩ = some (.int .i64 kn) ∧ X.cell? ⟨w4.heap.size, 3, none⟩ = some (.slice qq2 nq dq2) ∧ X.cell? ⟨w4.heap.size, 4, none⟩ = some (.int .i64 t) ∧ X.cell? ⟨w4.heap.size, 5, none⟩ = some (.slice qb2 nb db2) ∧ X.cell? ⟨w4.heap.size, 6, none⟩ = some (.int .i64 u) ∧ X.cell? ⟨w4.heap.size, 7, none⟩ = some (.slice qs2 ns ds2) ∧ X.cell? ⟨w4.heap.size, 8, none⟩ = some (.int .i64 e) ∧ X.cell? ⟨w4.heap.size, 9, none⟩ = some (.slice qv2 nv dv2) ∧ X.cell? ⟨w4.heap.size, 10, none⟩ = some (.slice qg2 ng dg2) ∧ X.cell? ⟨w4.heap.size, 11, none⟩ = some (.slice qw2 nw dw2) ∧ X.cell? ⟨w4.heap.size, 12, none⟩ = some (.slice qz2 nz dz2)) (exact HK _ (by repeat (with_reducible (first | exact Below.refl _ _ | refine below_drewL ?_ | refine below_on ?_ bT | refine below_on ?_ bE)))) (first | (go_at_call 15; refine (CT _ (below_on k7 bdr)).mono ?_; rintro z wT ⟨qj3, dj3, qq3, dq3, yq3, qb3, db3, qs3, ds3, qv3, dv3, yv3, qg3, dg3, yg3, qw3, dw3, yw3, qz3, dz3, yz3, Kj3, Kq3, Kb3, Ks3, Kv3, Kg3, Kw3, rfl, Pj3, Pq3, Pb3, Ps3, Pv3, Pg3, Pw3, Pz3, s3_0, s3_1, s3_2, s3_3, s3_4, s3_5, s3_6, s3_7, hq3, hv3, hg3, hw3, hz3, bT⟩) | (go_at_call 8; refine (eqWorldF_true qj2 nj dj2 cn kn qq2 nq dq2 t qb2 nb db2 u qs2 ns ds2 e qv2 nv dv2 qg2 ng dg2 qw2 nw dw2 qz2 nz dz2 qj3 nj dj3 qq3 nq dq3 qb3 nb db3 qs3 ns ds3 qv3 nv dv3 qg3 ng dg3 qw3 nw dw3 qz3 nz dz3 xj yq2 xb xs yv2 yg2 yw2 yz2 yq3 yv3 yg3 yw3 yz3 wT (Pj2.ok.on (below_on (below_on kx7 bdr) bT)) (Pq2.arg.on (below_on (below_on kx7 bdr) bT)) (Pb2.ok.on (below_on (below_on kx7 bdr) bT)) (Ps2.ok.on (below_on (below_on kx7 bdr) bT)) (Pv2.arg.on (below_on (below_on kx7 bdr) bT)) (Pg2.arg.on (below_on (below_on kx7 bdr) bT)) (Pw2.arg.on (below_on (below_on kx7 bdr) bT)) (Pz2.arg.on (below_on (below_on kx7 bdr) bT)) Pj3.ok Pq3.arg Pb3.ok Ps3.ok Pv3.arg Pg3.arg Pw3.arg Pz3.arg (show Hid (yq2.map Rc.con = yq3.map Rc.con) by rw [Hid, hq2.out, hq3.out]) (show Hid (yv2.map Rc.con = yv3.map Rc.con) by rw [Hid, hv2.out, hv3.out]) (show Hid (yg2.map Rc.con = yg3.map Rc.con) by rw [Hid, hg2.out, hg3.out]) (show Hid (yw2.map Rc.con = yw3.map Rc.con) by rw [Hid, hw2.out, hw3.out]) (show Hid (yz2.map Rc.con = yz3.map Rc.con) by rw [Hid, hz2.out, hz3.out])).mono ?_; rintro z wE ⟨rfl, bE⟩))
    have b8 : Below w7.heap.size w7 wE := below_on (below_on bdr bT) bE
    clear HK bdr bT bE Pj3 Pq3 Pb3 Ps3 Pv3 Pg3 Pw3 Pz3 hq3 hv3 hg3 hw3 hz3 s3_0 s3_1 s3_2 s3_3 s3_4 s3_5 s3_6 s3_7
    obtain ⟨w8, hwE⟩ : ∃ X, X = wE := ⟨_, rfl⟩
    rw [← hwE] at b8 ⊢
    clear hwE
    have k8 : Below w.heap.size w w8 := below_on k7 b8
    have z8 := b8.size
    replace r1 := r1.on b8
    replace r2 := r2.on b8
    replace CA := CA.on b8
    replace CX := CX.on b8
    have kx8 := below_on kx7 b8
    replace Pj2 := Pj2.past (Wn.of_below (lo := 0) (hi := 0) kx8) (Or.inr (Nat.zero_le _))
    replace Pq2 := Pq2.past (Wn.of_below (lo := 0) (hi := 0) kx8) (Or.inr (Nat.zero_le _))
    replace Pb2 := Pb2.past (Wn.of_below (lo := 0) (hi := 0) kx8) (Or.inr (Nat.zero_le _))
    replace Ps2 := Ps2.past (Wn.of_below (lo := 0) (hi := 0) kx8) (Or.inr (Nat.zero_le _))
    replace Pv2 := Pv2.past (Wn.of_below (lo := 0) (hi := 0) kx8) (Or.inr (Nat.zero_le _))
    replace Pg2 := Pg2.past (Wn.of_below (lo := 0) (hi := 0) kx8) (Or.inr (Nat.zero_le _))
    replace Pw2 := Pw2.past (Wn.of_below (lo := 0) (hi := 0) kx8) (Or.inr (Nat.zero_le _))
    replace Pz2 := Pz2.past (Wn.of_below (lo := 0) (hi := 0) kx8) (Or.inr (Nat.zero_le _))
    have lX0 : w8.cell? ⟨w4.heap.size, 0, none⟩ = some (.slice qj2 nj dj2) := (CX.2 0).1
    have lX1 : w8.cell? ⟨w4.heap.size, 1, none⟩ = some (.int .i64 cn) := (CX.2 1).1
    have lX2 : w8.cell? ⟨w4.heap.size, 2, none⟩ = some (.int .i64 kn) := (CX.2 2).1
    have lX3 : w8.cell? ⟨w4.heap.size, 3, none⟩ = some (.slice qq2 nq dq2) := (CX.2 3).1
    have lX4 : w8.cell? ⟨w4.heap.size, 4, none⟩ = some (.int .i64 t) := (CX.2 4).1
    have lX5 : w8.cell? ⟨w4.heap.size, 5, none⟩ = some (.slice qb2 nb db2) := (CX.2 5).1
    have lX6 : w8.cell? ⟨w4.heap.size, 6, none⟩ = some (.int .i64 u) := (CX.2 6).1
    have lX7 : w8.cell? ⟨w4.heap.size, 7, none⟩ = some (.slice qs2 ns ds2) := (CX.2 7).1
    have lX8 : w8.cell? ⟨w4.heap.size, 8, none⟩ = some (.int .i64 e) := (CX.2 8).1
    have lX9 : w8.cell? ⟨w4.heap.size, 9, none⟩ = some (.slice qv2 nv dv2) := (CX.2 9).1
    have lX10 : w8.cell? ⟨w4.heap.size, 10, none⟩ = some (.slice qg2 ng dg2) := (CX.2 10).1
    have lX11 : w8.cell? ⟨w4.heap.size, 11, none⟩ = some (.slice qw2 nw dw2) := (CX.2 11).1
    have lX12 : w8.cell? ⟨w4.heap.size, 12, none⟩ = some (.slice qz2 nz dz2) := (CX.2 12).1
    go_wp2_with (fail)
    clear lX0 lX1 lX2 lX3 lX4 lX5 lX6 lX7 lX8 lX9 lX10 lX11 lX12
    refine (markWorldF_sh qj2 nj dj2 cn kn qq2 nq dq2 t qb2 nb db2 u qs2 ns ds2 e qv2 nv dv2 qg2 ng dg2 qw2 nw dw2 qz2 nz dz2 xj yq2 xb xs yv2 yg2 yw2 yz2 w3.heap.size w4.heap.size 1 Kj2 Kq2 Kb2 Ks2 Kv2 Kg2 Kw2 _ Pj2 Pq2 Pb2 Ps2 Pv2 Pg2 Pw2 Pz2 s2_0 s2_1 s2_2 s2_3 s2_4 s2_5 s2_6 s2_7 (by omega) (by omega) hcost).mono ?_
    rintro z w9 ⟨rfl, hWm⟩
    have k9 : Below w.heap.size w w9 := hWm.low k8 (by omega) (by omega)
    have z9 := hWm.size
    replace r1 := r1.pastW hWm (by omega)
    replace r2 := r2.pastW hWm (by omega)
    replace CA := CA.pastW hWm (by omega)
    obtain ⟨KM, hKM⟩ : ∃ q : Nat, q = 1 + (nj + (costF yq2 + nb) + (ns + costF yv2 + costF yg2) + costF yw2 + costF yz2) := ⟨_, rfl⟩
    rw [← hKM]
    have hKM0 : ¬ (KM : Int) < 0 := by omega
    have hKM1 : KM ≤ 100000000 := by omega
    clear hKM hcost hWm CX Pj2 Pq2 Pb2 Ps2 Pv2 Pg2 Pw2 Pz2 hq2 hv2 hg2 hw2 hz2
    go_wp2_with (fail)
    refine (eqByteS_any pr2 pr1 FN FN cr2 cr1 FL FL _ (by omega) r2.len r1.len r2.bytes r1.bytes).mono ?_
    rintro e w10 ⟨rfl, b10⟩
    have k10 : Below w.heap.size w w10 := below_on k9 b10
    have z10 := b10.size
    replace r1 := r1.on b10
    replace r2 := r2.on b10
    replace CA := CA.on b10
    go_wp2_with (fail)
    refine (markByteS_own _ _ pr2 FN cr2 FL 1 _ (by omega) (by omega) (by omega) r2).mono ?_
    rintro e w11 ⟨rfl, m11, g11⟩
    have k11 : Below w.heap.size w w11 := below_mark k10 g11 r2 (by omega)
    have z11 := g11.size
    replace CA := CA.far g11 r2 (by omega)
    replace r1 := r1.far g11 r2 (by omega)
    clear r2 g11
    have r2 := m11
    clear m11
    go_wp2_with (fail)
    refine (heldByteS_any pr2 FN cr2 1 _ (by omega) (by omega) (by omega) r2.bytes).mono ?_
    rintro e w12 ⟨rfl, b12⟩
    have k12 : Below w.heap.size w w12 := below_on k11 b12
    have z12 := b12.size
    replace r1 := r1.on b12
    replace r2 := r2.on b12
    replace CA := CA.on b12
    have lA0 : w12.cell? ⟨w.heap.size, 0, none⟩ = some (.slice pj nj cj) := (CA.2 0).1
    have lA1 : w12.cell? ⟨w.heap.size, 1, none⟩ = some (.int .i64 cn) := (CA.2 1).1
    have lA2 : w12.cell? ⟨w.heap.size, 2, none⟩ = some (.int .i64 kn) := (CA.2 2).1
    have lA3 : w12.cell? ⟨w.heap.size, 3, none⟩ = some (.slice pq nq cq) := (CA.2 3).1
    have lA4 : w12.cell? ⟨w.heap.size, 4, none⟩ = some (.int .i64 t) := (CA.2 4).1
    have lA5 : w12.cell? ⟨w.heap.size, 5, none⟩ = some (.slice pb nb cb) := (CA.2 5).1
    have lA6 : w12.cell? ⟨w.heap.size, 6, none⟩ = some (.int .i64 u) := (CA.2 6).1
    have lA7 : w12.cell? ⟨w.heap.size, 7, none⟩ = some (.slice ps ns cs) := (CA.2 7).1
    have lA8 : w12.cell? ⟨w.heap.size, 8, none⟩ = some (.int .i64 e) := (CA.2 8).1
    have lA9 : w12.cell? ⟨w.heap.size, 9, none⟩ = some (.slice pv nv cv) := (CA.2 9).1
    have lA10 : w12.cell? ⟨w.heap.size, 10, none⟩ = some (.slice pg ng cg) := (CA.2 10).1
    have lA11 : w12.cell? ⟨w.heap.size, 11, none⟩ = some (.slice pw nw cw) := (CA.2 11).1
    have lA12 : w12.cell? ⟨w.heap.size, 12, none⟩ = some (.slice pz nz cz) := (CA.2 12).1
    go_wp2_with (fail)
    clear lA0 lA1 lA2 lA3 lA4 lA5 lA6 lA7 lA8 lA9 lA10 lA11 lA12
    refine (CT _ k12).mono ?_
    rintro z w13 ⟨qj4, dj4, qq4, dq4, yq4, qb4, db4, qs4, ds4, qv4, dv4, yv4, qg4, dg4, yg4, qw4, dw4, yw4, qz4, dz4, yz4, Kj4, Kq4, Kb4, Ks4, Kv4, Kg4, Kw4, rfl, Pj4, Pq4, Pb4, Ps4, Pv4, Pg4, Pw4, Pz4, s4_0, s4_1, s4_2, s4_3, s4_4, s4_5, s4_6, s4_7, hq4, hv4, hg4, hw4, hz4, b13⟩
    have k13 : Below w.heap.size w w13 := below_on k12 b13
    have z13 := b13.size
    replace r1 := r1.on b13
    replace r2 := r2.on b13
    replace CA := CA.on b13
    clear Pq4 Pb4 Ps4 Pv4 Pg4 Pw4 Pz4 hq4 hv4 hg4 hw4 hz4 s4_0 s4_1 s4_2 s4_3 s4_4 s4_5 s4_6 s4_7
    go_wp2_with (fail)
    refine (CI qj4 qq4 qb4 qs4 qv4 qg4 qw4 qz4 dj4 dq4 db4 ds4 dv4 dg4 dw4 dz4 _ Pj4.ok.bytes (keys_below hK k13)).mono ?_
    rintro e w14 ⟨pr3, cr3, rfl, r3, b14⟩
    have k14 : Below w.heap.size w w14 := below_on k13 b14
    have z14 := b14.size
    replace r1 := r1.on b14
    replace r2 := r2.on b14
    replace CA := CA.on b14
    clear Pj4
    go_wp2_with (fail)
    refine (eqByteS_any pr3 pr1 FN FN cr3 cr1 FL FL _ (by omega) r3.len r1.len r3.bytes r1.bytes).mono ?_
    rintro e w15 ⟨rfl, b15⟩
    have k15 : Below w.heap.size w w15 := below_on k14 b15
    have z15 := b15.size
    replace r1 := r1.on b15
    replace r2 := r2.on b15
    replace r3 := r3.on b15
    replace CA := CA.on b15
    go_wp2_with (fail)
    refine (heldByteS_any pr2 FN cr2 1 _ (by omega) (by omega) (by omega) r2.bytes).mono ?_
    rintro e w16 ⟨rfl, b16⟩
    have k16 : Below w.heap.size w w16 := below_on k15 b16
    have z16 := b16.size
    replace r1 := r1.on b16
    replace r2 := r2.on b16
    replace r3 := r3.on b16
    replace CA := CA.on b16
    go_wp2_with (fail)
    go_ret
    exact ⟨rfl, k16⟩
  · rw [if_neg hT] at CS
    clear hT hTT
    go_enter Tryz.func4, Tryz.ntmps4
    go_wp2_with (fail)
    refine (CS _ (b0 _)).mono ?_
    rintro z w1 ⟨rfl, b1⟩
    have k1 := below_on (b0 _) b1
    clear b1 CS
    go_wp2_with (fail)
    go_ret
    exact ⟨rfl, k1⟩

end Go.Proofs.YthfnechcddmjkaaGreatDoor
