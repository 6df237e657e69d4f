/-
  FnQueues returns true for any code, and writes nothing that was there; conditions: bytes all.
-/
import Derived.Test.YtkdbcplcpcdnbaaPart10
import Derived.Test.YtkdbcplcpcdnbaaPart09
import Derived.Test.YtkdbcplcpcdnbaaPart05
import Derived.Test.YtkdbcplcpcdnbaaPart06
import Derived.Deep.RegionHeld3
namespace Go.Proofs.Ytkdbcplcpcdnbaa
open Go.RowKit
set_option maxRecDepth 100000

set_option maxHeartbeats 32000000 in
theorem fnQueues_small (p : Option Addr) (n c : Nat) (xs : List Int) (w : World) (hn : n ≤ 1048576) (hx : xs.length = n) (h : BytesIn w p n xs) (hb : ∀ x ∈ xs, 0 ≤ x ∧ x < 256) :
    Calls Try.prog 3 #[.slice p n c] w fun e w' => e = .returned (.bool true) ∧ Below w.heap.size w w' := by
  go_enter Try.func3, Try.ntmps3
  go_wp2_with (fail)
  refine (big_small p n c _ hn).mono ?_
  rintro e w1 ⟨rfl, b1⟩
  have k1 := b1
  have z1 := b1.size
  go_wp2_with (fail)
  refine (dPut p n c xs _ hn hx (in_below h k1) hb).mono ?_
  rintro e w2 ⟨pq, jq, cq, iq, x, rfl, hjq, hxs, hxn, rq, dq, ox, b2⟩
  have k2 := below_on k1 b2
  have z2 := b2.size
  clear b2
  have sq : Sm iq := dq.2
  have hlq := rq.len
  have hxl := ox.len
  clear dq
  obtain ⟨nA, F, LA, hnA, sLA, hF0, hF1, CSp, CIp⟩ := putBoth pq jq cq iq x sq hjq hlq ⟨hxs, hxn, hxl⟩
  replace hF0 : Hid _ := hF0
  replace hF1 : Hid _ := hF1
  replace sLA : Hid (SmC LA) := sLA
  obtain ⟨w3, hw3⟩ : ∃ X, X = w2.alloc (.cells #[.string x.s, .int .i64 x.t, .int .i64 x.d, .slice x.p x.n x.c] 26) := ⟨_, rfl⟩
  have b3 : Below w2.heap.size w2 w3 := by rw [hw3]; exact made_below _ _ (Below.refl _ _)
  have Cx : Cells w3 w2.heap.size #[.string x.s, .int .i64 x.t, .int .i64 x.d, .slice x.p x.n x.c] := by rw [hw3]; exact Cells.made _ _ _
  replace hw3 : Hid (w2.alloc (.cells #[.string x.s, .int .i64 x.t, .int .i64 x.d, .slice x.p x.n x.c] 26) = w3) := hw3.symm
  have k3 := below_on k2 b3
  have z3 := b3.size
  replace rq := rq.on b3
  replace ox := ox.on b3
  clear b3
  have lx_0 : w3.cell? ⟨w2.heap.size, 0, none⟩ = some (.string x.s) := (Cx.2 0).1
  have lx_1 : w3.cell? ⟨w2.heap.size, 1, none⟩ = some (.int .i64 x.t) := (Cx.2 1).1
  have lx_2 : w3.cell? ⟨w2.heap.size, 2, none⟩ = some (.int .i64 x.d) := (Cx.2 2).1
  have lx_3 : w3.cell? ⟨w2.heap.size, 3, none⟩ = some (.slice x.p x.n x.c) := (Cx.2 3).1
  go_wp2_with (rw [hw3.out])
  clear hw3
  obtain ⟨Bx, hBx⟩ : ∃ B, B = w2.heap.size := ⟨_, rfl⟩
  have vx : w2.heap.size ≤ Bx ∧ Bx < w3.heap.size := by rw [hBx]; exact ⟨Nat.le_refl _, Cx.1⟩
  rw [← hBx] at Cx lx_0 lx_1 lx_2 lx_3 ⊢
  clear hBx
  clear lx_0 lx_1 lx_2 lx_3
  refine (CIp _ _ _ _ _ rq ox).mono ?_
  rintro e w4 ⟨pa, ca, ia, rfl, ra, ea, b4⟩
  have k4 := below_on k3 b4
  have z4 := b4.size
  replace rq := rq.on b4
  replace ox := ox.on b4
  replace Cx := Cx.on b4
  clear b4
  have sa := sLA.out.sm ra ea
  clear CIp
  have lx_0 : w4.cell? ⟨Bx, 0, none⟩ = some (.string x.s) := (Cx.2 0).1
  have lx_1 : w4.cell? ⟨Bx, 1, none⟩ = some (.int .i64 x.t) := (Cx.2 1).1
  have lx_2 : w4.cell? ⟨Bx, 2, none⟩ = some (.int .i64 x.d) := (Cx.2 2).1
  have lx_3 : w4.cell? ⟨Bx, 3, none⟩ = some (.slice x.p x.n x.c) := (Cx.2 3).1
  go_wp2_with (fail)
  clear lx_0 lx_1 lx_2 lx_3
  refine (CSp _ _ _ _ _ rq ox).mono ?_
  rintro e w5 ⟨pb, cb, ib, rfl, rb, eb, b5⟩
  have k5 := below_on k4 b5
  have z5 := b5.size
  replace rq := rq.on b5
  replace ra := ra.on b5
  replace ox := ox.on b5
  replace Cx := Cx.on b5
  clear b5
  have sb := sLA.out.sm rb eb
  clear CSp
  go_wp2_with (fail)
  refine (dTake p n c xs _ hn hx (in_below h k5) hb).mono ?_
  rintro e w6 ⟨pt, jt, ct, it, s, rfl, hjt, hss, rt, dt, b6⟩
  have k6 := below_on k5 b6
  have z6 := b6.size
  replace rq := rq.on b6
  replace ra := ra.on b6
  replace rb := rb.on b6
  replace ox := ox.on b6
  replace Cx := Cx.on b6
  clear b6
  have st : Sm it := dt.2
  clear dt
  obtain ⟨nT, G, XT, LT, hnT, hXT, sLT, hG, hG1, CSt, CIt⟩ := takeBoth pt jt ct it s st hjt rt.len rt.cap hss
  replace hG1 : Hid _ := hG1
  replace sLT : Hid (SmC LT) := sLT
  replace hG : Hid _ := hG
  go_wp2_with (fail)
  refine (CIt _ _ _ rt).mono ?_
  rintro e w7 ⟨y, pr, cr, ir, rfl, oy, rr, ey, er, b7⟩
  have k7 := below_on k6 b7
  have z7 := b7.size
  replace rq := rq.on b7
  replace ra := ra.on b7
  replace rb := rb.on b7
  replace rt := rt.on b7
  replace ox := ox.on b7
  replace Cx := Cx.on b7
  clear b7
  have sr := sLT.out.sm rr er
  clear CIt
  obtain ⟨w8, hw8⟩ : ∃ X, X = w7.alloc (.cells #[.string y.s, .int .i64 y.t, .int .i64 y.d, .slice y.p y.n y.c] 26) := ⟨_, rfl⟩
  have b8 : Below w7.heap.size w7 w8 := by rw [hw8]; exact made_below _ _ (Below.refl _ _)
  have Cy : Cells w8 w7.heap.size #[.string y.s, .int .i64 y.t, .int .i64 y.d, .slice y.p y.n y.c] := by rw [hw8]; exact Cells.made _ _ _
  replace hw8 : Hid (w7.alloc (.cells #[.string y.s, .int .i64 y.t, .int .i64 y.d, .slice y.p y.n y.c] 26) = w8) := hw8.symm
  have k8 := below_on k7 b8
  have z8 := b8.size
  replace rq := rq.on b8
  replace ra := ra.on b8
  replace rb := rb.on b8
  replace rt := rt.on b8
  replace rr := rr.on b8
  replace ox := ox.on b8
  replace oy := oy.on b8
  replace Cx := Cx.on b8
  clear b8
  go_wp2_with (rw [hw8.out])
  clear hw8
  obtain ⟨By, hBy⟩ : ∃ B, B = w7.heap.size := ⟨_, rfl⟩
  have vy : w7.heap.size ≤ By ∧ By < w8.heap.size := by rw [hBy]; exact ⟨Nat.le_refl _, Cy.1⟩
  rw [← hBy] at Cy  ⊢
  clear hBy
  refine (CSt _ _ _ rt).mono ?_
  rintro e w9 ⟨z, po, co, io, rfl, oz, ro, ez, eo, b9⟩
  have k9 := below_on k8 b9
  have z9 := b9.size
  replace rq := rq.on b9
  replace ra := ra.on b9
  replace rb := rb.on b9
  replace rt := rt.on b9
  replace rr := rr.on b9
  replace ox := ox.on b9
  replace oy := oy.on b9
  replace Cx := Cx.on b9
  replace Cy := Cy.on b9
  clear b9
  have so := sLT.out.sm ro eo
  clear CSt
  obtain ⟨w10, hw10⟩ : ∃ X, X = w9.alloc (.cells #[.string z.s, .int .i64 z.t, .int .i64 z.d, .slice z.p z.n z.c] 26) := ⟨_, rfl⟩
  have b10 : Below w9.heap.size w9 w10 := by rw [hw10]; exact made_below _ _ (Below.refl _ _)
  have Cz : Cells w10 w9.heap.size #[.string z.s, .int .i64 z.t, .int .i64 z.d, .slice z.p z.n z.c] := by rw [hw10]; exact Cells.made _ _ _
  replace hw10 : Hid (w9.alloc (.cells #[.string z.s, .int .i64 z.t, .int .i64 z.d, .slice z.p z.n z.c] 26) = w10) := hw10.symm
  have k10 := below_on k9 b10
  have z10 := b10.size
  replace rq := rq.on b10
  replace ra := ra.on b10
  replace rb := rb.on b10
  replace rt := rt.on b10
  replace rr := rr.on b10
  replace ro := ro.on b10
  replace ox := ox.on b10
  replace oy := oy.on b10
  replace oz := oz.on b10
  replace Cx := Cx.on b10
  replace Cy := Cy.on b10
  clear b10
  have hyz := con_four ey ez
  go_wp2_with (rw [hw10.out])
  clear hw10
  obtain ⟨Bz, hBz⟩ : ∃ B, B = w9.heap.size := ⟨_, rfl⟩
  have vz : w9.heap.size ≤ Bz ∧ Bz < w10.heap.size := by rw [hBz]; exact ⟨Nat.le_refl _, Cz.1⟩
  rw [← hBz] at Cz  ⊢
  clear hBz
  refine (dDue p n c xs _ hn hx (in_below h k10) hb).mono ?_
  rintro e w11 ⟨pd, jd, cd, id, now, rfl, hjd, rd, dd, b11⟩
  have k11 := below_on k10 b11
  have z11 := b11.size
  replace rq := rq.on b11
  replace ra := ra.on b11
  replace rb := rb.on b11
  replace rt := rt.on b11
  replace rr := rr.on b11
  replace ro := ro.on b11
  replace ox := ox.on b11
  replace oy := oy.on b11
  replace oz := oz.on b11
  replace Cx := Cx.on b11
  replace Cy := Cy.on b11
  replace Cz := Cz.on b11
  clear b11
  have sd : Sm id := dd.2
  clear dd
  obtain ⟨nE, LE, hnE, sLE, hE, CSd, CId⟩ := dueBoth pd jd cd id now sd hjd rd.len
  replace hE : Hid _ := hE
  replace sLE : Hid (SmC LE) := sLE
  go_wp2_with (fail)
  refine (CId _ _ _ rd).mono ?_
  rintro e w12 ⟨pe, ce, ie, rfl, re, ee, b12⟩
  have k12 := below_on k11 b12
  have z12 := b12.size
  replace rq := rq.on b12
  replace ra := ra.on b12
  replace rb := rb.on b12
  replace rt := rt.on b12
  replace rr := rr.on b12
  replace ro := ro.on b12
  replace rd := rd.on b12
  replace ox := ox.on b12
  replace oy := oy.on b12
  replace oz := oz.on b12
  replace Cx := Cx.on b12
  replace Cy := Cy.on b12
  replace Cz := Cz.on b12
  clear b12
  have se := sLE.out.sm re ee
  clear CId
  go_wp2_with (fail)
  refine (dOf p n c xs _ hn hx (in_below h k12) hb).mono ?_
  rintro e w13 ⟨pf, jf, cf, fi, s2, rfl, hjf, hs2, rf, df, b13⟩
  have k13 := below_on k12 b13
  have z13 := b13.size
  replace rq := rq.on b13
  replace ra := ra.on b13
  replace rb := rb.on b13
  replace rt := rt.on b13
  replace rr := rr.on b13
  replace ro := ro.on b13
  replace rd := rd.on b13
  replace re := re.on b13
  replace ox := ox.on b13
  replace oy := oy.on b13
  replace oz := oz.on b13
  replace Cx := Cx.on b13
  replace Cy := Cy.on b13
  replace Cz := Cz.on b13
  clear b13
  have sf : Sm fi := df.2
  clear df
  go_wp2_with (fail)
  refine (dQueueOk p n c xs _ hn hx (in_below h k13) hb).mono ?_
  rintro e w14 ⟨pk, jk, ck, ik, rfl, hjk, rk, dk, b14⟩
  have k14 := below_on k13 b14
  have z14 := b14.size
  replace rq := rq.on b14
  replace ra := ra.on b14
  replace rb := rb.on b14
  replace rt := rt.on b14
  replace rr := rr.on b14
  replace ro := ro.on b14
  replace rd := rd.on b14
  replace re := re.on b14
  replace rf := rf.on b14
  replace ox := ox.on b14
  replace oy := oy.on b14
  replace oz := oz.on b14
  replace Cx := Cx.on b14
  replace Cy := Cy.on b14
  replace Cz := Cz.on b14
  clear b14
  have sk : Sm ik := dk.2
  clear dk
  go_wp2_with (fail)
  refine (dItemOk p n c xs _ hn hx (in_below h k14) hb).mono ?_
  rintro e w15 ⟨v, rfl, hvs, hvn, ov, b15⟩
  have k15 := below_on k14 b15
  have z15 := b15.size
  replace rq := rq.on b15
  replace ra := ra.on b15
  replace rb := rb.on b15
  replace rt := rt.on b15
  replace rr := rr.on b15
  replace ro := ro.on b15
  replace rd := rd.on b15
  replace re := re.on b15
  replace rf := rf.on b15
  replace rk := rk.on b15
  replace ox := ox.on b15
  replace oy := oy.on b15
  replace oz := oz.on b15
  replace Cx := Cx.on b15
  replace Cy := Cy.on b15
  replace Cz := Cz.on b15
  clear b15
  obtain ⟨w16, hw16⟩ : ∃ X, X = w15.alloc (.cells #[.string v.s, .int .i64 v.t, .int .i64 v.d, .slice v.p v.n v.c] 26) := ⟨_, rfl⟩
  have b16 : Below w15.heap.size w15 w16 := by rw [hw16]; exact made_below _ _ (Below.refl _ _)
  have Cv : Cells w16 w15.heap.size #[.string v.s, .int .i64 v.t, .int .i64 v.d, .slice v.p v.n v.c] := by rw [hw16]; exact Cells.made _ _ _
  replace hw16 : Hid (w15.alloc (.cells #[.string v.s, .int .i64 v.t, .int .i64 v.d, .slice v.p v.n v.c] 26) = w16) := hw16.symm
  have k16 := below_on k15 b16
  have z16 := b16.size
  replace rq := rq.on b16
  replace ra := ra.on b16
  replace rb := rb.on b16
  replace rt := rt.on b16
  replace rr := rr.on b16
  replace ro := ro.on b16
  replace rd := rd.on b16
  replace re := re.on b16
  replace rf := rf.on b16
  replace rk := rk.on b16
  replace ox := ox.on b16
  replace oy := oy.on b16
  replace oz := oz.on b16
  replace ov := ov.on b16
  replace Cx := Cx.on b16
  replace Cy := Cy.on b16
  replace Cz := Cz.on b16
  clear b16
  clear ov
  go_wp2_with (rw [hw16.out])
  clear hw16
  obtain ⟨Bv, hBv⟩ : ∃ B, B = w15.heap.size := ⟨_, rfl⟩
  have vv : w15.heap.size ≤ Bv ∧ Bv < w16.heap.size := by rw [hBv]; exact ⟨Nat.le_refl _, Cv.1⟩
  rw [← hBv] at Cv  ⊢
  clear hBv
  clear hx hb h
  have COI := fun X (r : ItemsIn X pf jf fi) => implOf_any pf jf cf fi s2 X (by omega) rf.len r sf.text (by omega)
  have COS : ∀ X, ItemsIn X pf jf fi → Calls Try.prog 22 #[.slice pf jf cf, .string s2] X fun e w' => e = .returned (.int .i64 (cntI s2 fi)) ∧ Below X.heap.size X w' := fun X r => (specOf_any pf jf cf fi s2 X (by omega) rf.len r).mono (fun e w' h => ⟨h.1, by rw [h.2]; exact Below.refl _ _⟩)
  generalize cntI s2 fi = NF at COI COS
  have hNF : ((NF : Int) != (NF : Int)) = false := by simp
  have CKI := fun X (r : ItemsIn X pk jk ik) => implQueueOk_any pk jk ck ik X (by omega) rk.len r sk.text
  have CKS := fun X (r : ItemsIn X pk jk ik) => specQueueOk_any pk jk ck ik X (by omega) rk.len r sk.text
  generalize qB ik = QK at CKI CKS
  have hQK : (QK != QK) = false := by simp
  have CVI := fun X => implItemOk_any v.s v.t v.d v.p v.n v.c X (by omega)
  have CVS := fun X => specItemOk_any v.s v.t v.d v.p v.n v.c X (by omega)
  generalize itB v.s v.t v.d v.n = QV at CVI CVS
  have hQV : (QV != QV) = false := by simp
  have hFF : (F != F) = false := by simp
  have hGG : (G != G) = false := by simp
  have HK : ∀ w', Below w16.heap.size w16 w' → w'.cell? ⟨By, 0, none⟩ = some (.string y.s) ∧ w'.cell? ⟨By, 1, none⟩ = some (.int .i64 y.t) ∧ w'.cell? ⟨By, 2, none⟩ = some (.int .i64 y.d) ∧ w'.cell? ⟨By, 3, none⟩ = some (.slice y.p y.n y.c) ∧ w'.cell? ⟨Bz, 0, none⟩ = some (.string z.s) ∧ w'.cell? ⟨Bz, 1, none⟩ = some (.int .i64 z.t) ∧ w'.cell? ⟨Bz, 2, none⟩ = some (.int .i64 z.d) ∧ w'.cell? ⟨Bz, 3, none⟩ = some (.slice z.p z.n z.c) ∧ w'.cell? ⟨Bv, 0, none⟩ = some (.string v.s) ∧ w'.cell? ⟨Bv, 1, none⟩ = some (.int .i64 v.t) ∧ w'.cell? ⟨Bv, 2, none⟩ = some (.int .i64 v.d) ∧ w'.cell? ⟨Bv, 3, none⟩ = some (.slice v.p v.n v.c) := fun w' hX => ⟨((Cy.on hX).2 0).1, ((Cy.on hX).2 1).1, ((Cy.on hX).2 2).1, ((Cy.on hX).2 3).1, ((Cz.on hX).2 0).1, ((Cz.on hX).2 1).1, ((Cz.on hX).2 2).1, ((Cz.on hX).2 3).1, ((Cv.on hX).2 0).1, ((Cv.on hX).2 1).1, ((Cv.on hX).2 2).1, ((Cv.on hX).2 3).1⟩
  have Sa : ∀ X, Below w16.heap.size w16 X → Calls Try.prog 18 #[.slice pa nA ca, .slice pb nA cb] X fun e w' => e = .returned (.bool true) ∧ Below X.heap.size X w' := fun X bX => sameItems_yes pa pb nA ca cb ia ib X (by omega) ra.len rb.len (itemsIn_on ra.items bX) (itemsIn_on rb.items bX) (fun x1 hx1 => (sa.lies ra x1 hx1).on bX) (fun x1 hx1 => (sb.lies rb x1 hx1).on bX) (ea.out.trans eb.out.symm)
  have Sr : ∀ X, Below w16.heap.size w16 X → Calls Try.prog 18 #[.slice pr nT cr, .slice po nT co] X fun e w' => e = .returned (.bool true) ∧ Below X.heap.size X w' := fun X bX => sameItems_yes pr po nT cr co ir io X (by omega) rr.len ro.len (itemsIn_on rr.items bX) (itemsIn_on ro.items bX) (fun x1 hx1 => (sr.lies rr x1 hx1).on bX) (fun x1 hx1 => (so.lies ro x1 hx1).on bX) (er.out.trans eo.out.symm)
  have SD : ∀ X, Below w16.heap.size w16 X → Calls Try.prog 20 #[.slice pd jd cd, .int .i64 now] X fun e w' => ∃ (q : Option Addr) (cq : Nat) (its' : List ItA), e = .returned (.slice q nE cq) ∧ OwnItems w' X.heap.size w'.heap.size (.slice q nE cq) nE its' ∧ Hid (its'.map ItA.con = LE) ∧ Below X.heap.size X w' := fun X bX => CSd X _ _ (rd.on bX)
  have SE : ∀ (pg : Option Addr) (cg : Nat) (ig : List ItA) (Y X : World) (lo hi : Nat), Below w16.heap.size w16 Y → OwnItems Y lo hi (.slice pg nE cg) nE ig → Hid (ig.map ItA.con = LE) → Below Y.heap.size Y X → Calls Try.prog 18 #[.slice pe nE ce, .slice pg nE cg] X fun e w' => e = .returned (.bool true) ∧ Below X.heap.size X w' := fun pg cg ig Y X lo hi bY rg eg bX => sameItems_yes pe pg nE ce cg ie ig X (by omega) re.len rg.len (itemsIn_on re.items (below_on bY bX)) (itemsIn_on rg.items bX) (fun x1 hx1 => (se.lies re x1 hx1).on (below_on bY bX)) (fun x1 hx1 => ((sLE.out.sm rg eg).lies rg x1 hx1).on bX) (ee.out.trans eg.out.symm)
  have SF1 := fun X (bX : Below w16.heap.size w16 X) => COI X (itemsIn_on rf.items bX)
  have SF2 := fun X (bX : Below w16.heap.size w16 X) => COS X (itemsIn_on rf.items bX)
  have SK1 := fun X (bX : Below w16.heap.size w16 X) => CKI X (itemsIn_on rk.items bX)
  have SK2 := fun X (bX : Below w16.heap.size w16 X) => CKS X (itemsIn_on rk.items bX)
  have oy' : Own 5 w16 _ _ (.slice y.p y.n y.c) y.n y.xs := oy
  have oz' : Own 5 w16 _ _ (.slice z.p z.n z.c) z.n z.xs := oz
  have hzn : z.n = y.n := by have h1 := oy'.len; have h2 := oz'.len; rw [hyz.2.2.2] at h1; omega
  have zB : BytesIn w16 z.p y.n y.xs := by have h3 := oz'.bytes; rw [hzn, ← hyz.2.2.2] at h3; exact h3
  have CYZ : ∀ X, BytesIn X y.p y.n y.xs → BytesIn X z.p y.n y.xs → Calls Try.prog 19 #[.agg #[.string y.s, .int .i64 y.t, .int .i64 y.d, .slice y.p y.n y.c], .agg #[.string z.s, .int .i64 z.t, .int .i64 z.d, .slice z.p z.n z.c]] X fun e w' => e = .returned (.bool true) ∧ Below X.heap.size X w' := by
    intro X h1 h2
    rw [← hyz.1, ← hyz.2.1, ← hyz.2.2.1, hzn]
    exact sameItem_yes y.s y.t y.d y.p z.p y.n y.c z.c y.xs X oy'.len h1 h2
  clear hyz hzn
  have SY := fun X (bX : Below w16.heap.size w16 X) => CYZ X (in_below oy'.bytes bX) (in_below zB bX)
  have bdr : Below w16.heap.size w16 w16.drew := (Below.refl _ _).drew
  go_region_held3 (fun w' => w'.cell? ⟨By, 0, none⟩ = some (.string y.s) ∧ w'.cell? ⟨By, 1, none⟩ = some (.int .i64 y.t) ∧ w'.cell? ⟨By, 2, none⟩ = some (.int .i64 y.d) ∧ w'.cell? ⟨By, 3, none⟩ = some (.slice y.p y.n y.c) ∧ w'.cell? ⟨Bz, 0, none⟩ = some (.string z.s) ∧ w'.cell? ⟨Bz, 1, none⟩ = some (.int .i64 z.t) ∧ w'.cell? ⟨Bz, 2, none⟩ = some (.int .i64 z.d) ∧ w'.cell? ⟨Bz, 3, none⟩ = some (.slice z.p z.n z.c) ∧ w'.cell? ⟨Bv, 0, none⟩ = some (.string v.s) ∧ w'.cell? ⟨Bv, 1, none⟩ = some (.int .i64 v.t) ∧ w'.cell? ⟨Bv, 2, none⟩ = some (.int .i64 v.d) ∧ w'.cell? ⟨Bv, 3, none⟩ = some (.slice v.p v.n v.c)) (exact HK _ (by repeat (with_reducible (first | exact Below.refl _ _ | refine below_drewL ?_ | refine below_on ?_ bq11 | refine below_on ?_ bq10 | refine below_on ?_ bq9 | refine below_on ?_ bq8 | refine below_on ?_ bq7 | refine below_on ?_ bq6 | refine below_on ?_ bq5 | refine below_on ?_ bq4 | refine below_on ?_ bq3 | refine below_on ?_ bq2 | refine below_on ?_ bq1)))) (first | (go_at_call 18; with_reducible refine (Sa _ (by repeat (with_reducible (first | exact Below.refl _ _ | refine below_drewL ?_ | refine below_on ?_ bq11 | refine below_on ?_ bq10 | refine below_on ?_ bq9 | refine below_on ?_ bq8 | refine below_on ?_ bq7 | refine below_on ?_ bq6 | refine below_on ?_ bq5 | refine below_on ?_ bq4 | refine below_on ?_ bq3 | refine below_on ?_ bq2 | refine below_on ?_ bq1)))).mono ?_; rintro z1 wq1 ⟨rfl, bq1⟩) | (go_at_call 19; with_reducible refine (SY _ (by repeat (with_reducible (first | exact Below.refl _ _ | refine below_drewL ?_ | refine below_on ?_ bq11 | refine below_on ?_ bq10 | refine below_on ?_ bq9 | refine below_on ?_ bq8 | refine below_on ?_ bq7 | refine below_on ?_ bq6 | refine below_on ?_ bq5 | refine below_on ?_ bq4 | refine below_on ?_ bq3 | refine below_on ?_ bq2 | refine below_on ?_ bq1)))).mono ?_; rintro z1 wq2 ⟨rfl, bq2⟩) | (go_at_call 18; with_reducible refine (Sr _ (by repeat (with_reducible (first | exact Below.refl _ _ | refine below_drewL ?_ | refine below_on ?_ bq11 | refine below_on ?_ bq10 | refine below_on ?_ bq9 | refine below_on ?_ bq8 | refine below_on ?_ bq7 | refine below_on ?_ bq6 | refine below_on ?_ bq5 | refine below_on ?_ bq4 | refine below_on ?_ bq3 | refine below_on ?_ bq2 | refine below_on ?_ bq1)))).mono ?_; rintro z1 wq3 ⟨rfl, bq3⟩) | (go_at_call 20; with_reducible refine (SD _ (by repeat (with_reducible (first | exact Below.refl _ _ | refine below_drewL ?_ | refine below_on ?_ bq11 | refine below_on ?_ bq10 | refine below_on ?_ bq9 | refine below_on ?_ bq8 | refine below_on ?_ bq7 | refine below_on ?_ bq6 | refine below_on ?_ bq5 | refine below_on ?_ bq4 | refine below_on ?_ bq3 | refine below_on ?_ bq2 | refine below_on ?_ bq1)))).mono ?_; rintro z1 wq4 ⟨pg, cg, ig, rfl, rg, eg, bq4⟩) | (go_at_call 18; with_reducible refine (SE pg cg ig wq4 wq4 _ _ (below_on (below_on (below_on (below_on bdr bq1) bq2) bq3) bq4) rg eg (Below.refl _ _)).mono ?_; rintro z1 wq5 ⟨rfl, bq5⟩) | (go_at_call 21; with_reducible refine (SF1 _ (by repeat (with_reducible (first | exact Below.refl _ _ | refine below_drewL ?_ | refine below_on ?_ bq11 | refine below_on ?_ bq10 | refine below_on ?_ bq9 | refine below_on ?_ bq8 | refine below_on ?_ bq7 | refine below_on ?_ bq6 | refine below_on ?_ bq5 | refine below_on ?_ bq4 | refine below_on ?_ bq3 | refine below_on ?_ bq2 | refine below_on ?_ bq1)))).mono ?_; rintro z1 wq6 ⟨rfl, bq6⟩) | (go_at_call 22; with_reducible refine (SF2 _ (by repeat (with_reducible (first | exact Below.refl _ _ | refine below_drewL ?_ | refine below_on ?_ bq11 | refine below_on ?_ bq10 | refine below_on ?_ bq9 | refine below_on ?_ bq8 | refine below_on ?_ bq7 | refine below_on ?_ bq6 | refine below_on ?_ bq5 | refine below_on ?_ bq4 | refine below_on ?_ bq3 | refine below_on ?_ bq2 | refine below_on ?_ bq1)))).mono ?_; rintro z1 wq7 ⟨rfl, bq7⟩) | (go_at_call 23; with_reducible refine (SK1 _ (by repeat (with_reducible (first | exact Below.refl _ _ | refine below_drewL ?_ | refine below_on ?_ bq11 | refine below_on ?_ bq10 | refine below_on ?_ bq9 | refine below_on ?_ bq8 | refine below_on ?_ bq7 | refine below_on ?_ bq6 | refine below_on ?_ bq5 | refine below_on ?_ bq4 | refine below_on ?_ bq3 | refine below_on ?_ bq2 | refine below_on ?_ bq1)))).mono ?_; rintro z1 wq8 ⟨rfl, bq8⟩) | (go_at_call 24; with_reducible refine (SK2 _ (by repeat (with_reducible (first | exact Below.refl _ _ | refine below_drewL ?_ | refine below_on ?_ bq11 | refine below_on ?_ bq10 | refine below_on ?_ bq9 | refine below_on ?_ bq8 | refine below_on ?_ bq7 | refine below_on ?_ bq6 | refine below_on ?_ bq5 | refine below_on ?_ bq4 | refine below_on ?_ bq3 | refine below_on ?_ bq2 | refine below_on ?_ bq1)))).mono ?_; rintro z1 wq9 ⟨rfl, bq9⟩) | (go_at_call 25; with_reducible refine (CVI _).mono ?_; rintro z1 wq10 ⟨rfl, bq10⟩) | (go_at_call 26; with_reducible refine (CVS _).mono ?_; rintro z1 wq11 ⟨rfl, bq11⟩))
  have bV : Below w16.heap.size w16 wq11 := below_on (below_on (below_on (below_on (below_on (below_on (below_on (below_on (below_on (below_on (below_on bdr bq1) bq2) bq3) bq4) bq5) bq6) bq7) bq8) bq9) bq10) bq11
  have kV := below_on k16 bV
  replace rq := rq.on bV
  replace ra := ra.on bV
  replace rt := rt.on bV
  replace rr := rr.on bV
  replace re := re.on bV
  replace ox := ox.on bV
  replace Cx := Cx.on bV
  replace Cy := Cy.on bV
  clear bq1 bq2 bq3 bq4 bq5 bq6 bq7 bq8 bq9 bq10 bq11 bdr bV HK Sa Sr SD SE SF1 SF2 SK1 SK2 SY COI COS CKI CKS CVI CVS CYZ CSd rb ro rd rg eg rf rk Cz Cv oy oy' oz oz' zB eb eo sb so sd sf sk sLE sLT hNF hQK hQV hFF hGG
  clear k1 k2 k3 k4 k5 k6 k7 k8 k9 k10 k11 k12 k13 k14 k15 k16
  clear z1 z2 z3 z4 z5 z6 z7 z8 z9 z10 z11 z12 z13 z14 z15 z16 vz vv hvs hvn hjf hs2 hjk hXT hjd
  obtain ⟨V, hV⟩ : ∃ V, V = wq11 := ⟨_, rfl⟩
  rw [← hV] at kV rq ra rt rr re ox Cx Cy ⊢
  clear hV
  have hle := re.len
  have hE2 : ∀ k : Nat, k < nE → now ≤ (ie.getD k default).d := fun k hk => hE.out ie ee.out k (by omega)
  clear hE ee
  go_wp2_with (fail)
  go_loopw [24] (fun j wr => ∃ k : Nat, k ≤ nE ∧ j = .int .i64 k ∧ wr = V) (fun j _ => nE - (intOf j).toNat)
  case atStart => exact ⟨0, Nat.zero_le _, rfl, rfl⟩
  case round =>
    obtain ⟨k, hk, rfl, rfl⟩ := hrel
    by_cases hlt : k < nE
    · obtain ⟨g, o, rfl, hcs⟩ := re.items (by omega)
      obtain ⟨x1, hx1⟩ : ∃ x1, ie.getD k default = x1 := ⟨_, rfl⟩
      obtain ⟨l0, l1, l2, l3⟩ := ItemsIn.at hcs hlt hx1
      have hge := hE2 k hlt
      rw [hx1] at hge
      have hno : ¬ x1.d < now := by omega
      clear hcs hx1 re
      go_wp2_with (fail)
      go_roundw
      case rel => exact ⟨k + 1, by omega, by go_num, by first | rfl | trivial⟩
      case measure => simp [intOf]; omega
    · have hkn : k = nE := by omega
      subst hkn
      clear re se hE2 hle hlt
      have COT := fun X (r : ItemsIn X pt jt it) => implOf_any pt jt ct it s X (by omega) rt.len r st.text (by omega)
      have COR := fun X (r : ItemsIn X pr nT ir) => implOf_any pr nT cr ir s X (by omega) rr.len r sr.text (by omega)
      have ly0 : wr.cell? ⟨By, 0, none⟩ = some (.string y.s) := (Cy.2 0).1
      have hG2 := hG1.out
      have hcl := cntI_le s it
      rw [rt.len] at hcl
      obtain ⟨NT, hNT⟩ : ∃ NT, NT = cntI s it := ⟨_, rfl⟩
      have hG' := hG.out
      rw [← hNT] at hG' hG2 hcl COT
      have hcr := cntI_le s ir
      rw [rr.len] at hcr
      obtain ⟨NR, hNR⟩ : ∃ NR, NR = cntI s ir := ⟨_, rfl⟩
      rw [← hNR] at COR hcr
      clear hG hG1 hNT
      by_cases hg : (0 : Int) < (NT : Int)
      · have hGt : G = true := by rw [hG']; exact decide_eq_true hg
        obtain ⟨h1, h2⟩ := hG2 hGt
        have h3 := h2 ir er.out
        rw [← hNR] at h3
        have hy1 : y.s = s := by rw [← h1]; exact congrArg Prod.fst ey.out
        have tY : (y.s.toList == s.toList) = true := by rw [hy1]; simp
        have hne : ((NR : Int) != (NT : Int) - 1) = false := by simp [h3]
        subst hGt
        clear h1 h2 h3 hy1 hG2 hG' hNR
        go_wp2_with (fail)
        refine (COT _ rt.items).mono ?_
        rintro e v1 ⟨rfl, d1⟩
        replace rt := rt.on d1
        replace rr := rr.on d1
        replace rq := rq.on d1
        replace ra := ra.on d1
        replace ox := ox.on d1
        replace Cx := Cx.on d1
        replace Cy := Cy.on d1
        have kV1 := below_on kV d1
        clear ly0 kV
        have ly1 : v1.cell? ⟨By, 0, none⟩ = some (.string y.s) := (Cy.2 0).1
        go_wp2_with (fail)
        refine (COR _ rr.items).mono ?_
        rintro e v2 ⟨rfl, d2⟩
        replace rt := rt.on d2
        replace rq := rq.on d2
        replace ra := ra.on d2
        replace ox := ox.on d2
        replace Cx := Cx.on d2
        have kV2 := below_on kV1 d2
        clear ly1 kV1 rr Cy
        go_wp2_with (fail)
        refine (COT _ rt.items).mono ?_
        rintro e v3 ⟨rfl, d3⟩
        replace rq := rq.on d3
        replace ra := ra.on d3
        replace ox := ox.on d3
        replace Cx := Cx.on d3
        have kV3 := below_on kV2 d3
        clear kV2 rt COT COR tY d1 d2 d3
        cases F
        · obtain ⟨hLA, hn2⟩ := hF0.out rfl
          subst hn2
          have CAQ := fun X (r1 : ItemsIn X pa nA ia) (r2 : ItemsIn X pq nA iq) (l1 : ∀ x ∈ ia, x.Lies X) (l2 : ∀ x ∈ iq, x.Lies X) => sameItems_yes pa pq nA ca cq ia iq X (by omega) ra.len rq.len r1 r2 l1 l2 (ea.out.trans hLA)
          clear hF0 hF1 hLA
          go_wp2_with (fail)
          refine (CAQ _ ra.items rq.items (sa.lies ra) (sq.lies rq)).mono ?_
          rintro e v4 ⟨rfl, d4⟩
          go_wp2_with (fail)
          go_ret
          exact ⟨rfl, below_on kV3 d4⟩
        · obtain ⟨hnp, hxt, hall⟩ := hF1.out rfl
          obtain ⟨hh1, hh2, hh3⟩ := hall ia ea.out ra.lens
          replace hh1 : Hid (0 < x.t → hitI x.s x.t ia = 1) := hh1
          replace hh3 : Hid ((ia.getD (nA - 1) default).con = x.con) := hh3
          have CQA := fun X (r : ItemsIn X pa nA ia) => implQueueOk_any pa nA ca ia X (by omega) ra.len r sa.text
          rw [hh2] at CQA
          have hal := ra.len
          clear hF0 hF1 hall hh2 rq sq
          go_wp2_with (fail)
          try clear hne
          go_loopw [25, 26] (fun nn j wr => ∃ k : Nat, k ≤ nA ∧ j = .int .i64 k ∧ (∃ NH : Nat, nn = .int .i64 NH ∧ Hid (NH = hitI x.s x.t (ia.take k))) ∧ Below v3.heap.size v3 wr) (fun _ j _ => nA - (intOf j).toNat)
          case atStart => exact ⟨0, Nat.zero_le _, rfl, ⟨0, rfl, by rw [Hid]; simp [hitI]⟩, Below.refl _ _⟩
          case round =>
            obtain ⟨k, hk, rfl, ⟨NH, rfl, hNH⟩, hbel⟩ := hrel
            have hNl : NH ≤ 10 := by
              have h1 := hitI_le x.s x.t (ia.take k)
              rw [← hNH.out, List.length_take] at h1
              omega
            have Cw := Cx.on hbel
            have lx0 : wr.cell? ⟨Bx, 0, none⟩ = some (.string x.s) := (Cw.2 0).1
            have lx1 : wr.cell? ⟨Bx, 1, none⟩ = some (.int .i64 x.t) := (Cw.2 1).1
            by_cases hlt : k < nA
            · obtain ⟨g, o, rfl, hcs⟩ := itemsIn_on ra.items hbel (by omega)
              obtain ⟨x1, hx1⟩ : ∃ x1, ia.getD k default = x1 := ⟨_, rfl⟩
              obtain ⟨l0, l1, l2, l3⟩ := ItemsIn.at hcs hlt hx1
              have hst := hitI_step x.s x.t ia k (by omega)
              rw [hx1, ← hNH.out] at hst
              have HKR : ∀ w', Below wr.heap.size wr w' → w'.cell? ⟨Bx, 0, none⟩ = some (.string x.s) ∧ w'.cell? ⟨Bx, 1, none⟩ = some (.int .i64 x.t) ∧ w'.cell? ⟨g, o + k * 4, none⟩ = some (.string x1.s) ∧ w'.cell? ⟨g, o + k * 4 + 1, none⟩ = some (.int .i64 x1.t) := fun w' hX => ⟨((Cw.on hX).2 0).1, ((Cw.on hX).2 1).1, (hX.cell (World.block_lt_of_cell? wr _ l0)).trans l0, (hX.cell (World.block_lt_of_cell? wr _ l1)).trans l1⟩
              have bdr : Below wr.heap.size wr wr.drew := (Below.refl _ _).drew
              have hk0 : (0 : Int) ≤ (k : Int) := by omega
              have hk1 : (k : Int) < (nA : Int) := by omega
              clear hcs hx1 hNH CQA hh1 hh3 ea ra ox Cw lx0 lx1 l0 l1 l2 l3
              by_cases hhit : 0 < x.t ∧ x1.s = x.s ∧ x1.t = x.t
              · rw [if_pos hhit] at hst
                obtain ⟨t1, t2, t3⟩ := hhit
                have tS : (x1.s.toList == x.s.toList) = true := by rw [t2]; simp
                have tT : (x1.t == x.t) = true := by rw [t3]; simp
                have hst' : Hid (NH + 1 = hitI x.s x.t (ia.take (k + 1))) := hst.symm
                clear t2 t3 hst
                go_wp2_with (fail)
                refine wp_region_noPanic ?_
                refine wp_region_held_drew (S := fun w' => w'.cell? ⟨Bx, 0, none⟩ = some (.string x.s) ∧ w'.cell? ⟨Bx, 1, none⟩ = some (.int .i64 x.t) ∧ w'.cell? ⟨g, o + k * 4, none⟩ = some (.string x1.s) ∧ w'.cell? ⟨g, o + k * 4 + 1, none⟩ = some (.int .i64 x1.t)) (by kernel_rfl) (HKR _ (by repeat (with_reducible (first | exact Below.refl _ _ | refine below_drewL ?_)))) (fun hHeld => ?_)
                refine wpAnyH_take (i := 0) rfl (by kernel_rfl) (by kernel_rfl) (by kernel_rfl) (fun _ _ _ h => h) (Or.inl ⟨by rfl, fun X hSw => by ((try dsimp only at hSw); go_simp; try with_reducible rfl)⟩) hHeld ?_
                try simp only [Act.put, List.getElem_toArray, List.getElem_cons_zero, List.setIfInBounds_toArray, List.set_cons_zero, List.set_cons_succ]
                refine wpAnyH_take (i := 1) rfl (by kernel_rfl) (by kernel_rfl) (by kernel_rfl) (fun _ _ _ h => h) (Or.inl ⟨by rfl, fun X hSw => by ((try dsimp only at hSw); go_simp; try with_reducible rfl)⟩) hHeld ?_
                try simp only [Act.put, List.getElem_toArray, List.getElem_cons_zero, List.getElem_cons_succ, List.setIfInBounds_toArray, List.set_cons_zero, List.set_cons_succ]
                refine wpAnyH_take (i := 2) rfl (by kernel_rfl) (by kernel_rfl) (by kernel_rfl) (fun _ _ _ h => h) (Or.inl ⟨by rfl, fun X hSw => by ((try dsimp only at hSw); go_simp; try with_reducible rfl)⟩) hHeld ?_
                try simp only [Act.put, List.getElem_toArray, List.getElem_cons_zero, List.getElem_cons_succ, List.setIfInBounds_toArray, List.set_cons_zero, List.set_cons_succ]
                refine wpAnyH_take (i := 3) rfl (by kernel_rfl) (by kernel_rfl) (by kernel_rfl) (fun _ _ _ h => h) (Or.inl ⟨by rfl, fun X hSw => by ((try dsimp only at hSw); go_simp; try with_reducible rfl)⟩) hHeld ?_
                try simp only [Act.put, List.getElem_toArray, List.getElem_cons_zero, List.getElem_cons_succ, List.setIfInBounds_toArray, List.set_cons_zero, List.set_cons_succ]
                refine wpAnyH_take (i := 4) rfl (by kernel_rfl) (by kernel_rfl) (by kernel_rfl) (fun _ _ _ h => h) (Or.inl ⟨by rfl, fun X hSw => by ((try dsimp only at hSw); go_simp; try with_reducible rfl)⟩) hHeld ?_
                try simp only [Act.put, List.getElem_toArray, List.getElem_cons_zero, List.getElem_cons_succ, List.setIfInBounds_toArray, List.set_cons_zero, List.set_cons_succ]
                refine wpAnyH_take (i := 5) rfl (by kernel_rfl) (by kernel_rfl) (by kernel_rfl) (fun _ _ _ h => h) (Or.inl ⟨by rfl, fun X hSw => by ((try dsimp only at hSw); go_simp; try with_reducible rfl)⟩) hHeld ?_
                try simp only [Act.put, List.getElem_toArray, List.getElem_cons_zero, List.getElem_cons_succ, List.setIfInBounds_toArray, List.set_cons_zero, List.set_cons_succ]
                refine wpAnyH_take (i := 6) rfl (by kernel_rfl) (by kernel_rfl) (by kernel_rfl) (fun _ _ _ h => h) (Or.inl ⟨by rfl, fun X hSw => by ((try dsimp only at hSw); go_simp; try with_reducible rfl)⟩) hHeld ?_
                try simp only [Act.put, List.getElem_toArray, List.getElem_cons_zero, List.getElem_cons_succ, List.setIfInBounds_toArray, List.set_cons_zero, List.set_cons_succ]
                refine wpAnyH_take (i := 7) rfl (by kernel_rfl) (by kernel_rfl) (by kernel_rfl) (fun _ _ _ h => h) (Or.inl ⟨by rfl, fun X hSw => by ((try dsimp only at hSw); go_simp; try with_reducible rfl)⟩) hHeld ?_
                try simp only [Act.put, List.getElem_toArray, List.getElem_cons_zero, List.getElem_cons_succ, List.setIfInBounds_toArray, List.set_cons_zero, List.set_cons_succ]
                refine wpAnyH_take (i := 8) rfl (by kernel_rfl) (by kernel_rfl) (by kernel_rfl) (fun _ _ _ h => h) (Or.inl ⟨by rfl, fun X hSw => by ((try dsimp only at hSw); go_simp; try with_reducible rfl)⟩) hHeld ?_
                try simp only [Act.put, List.getElem_toArray, List.getElem_cons_zero, List.getElem_cons_succ, List.setIfInBounds_toArray, List.set_cons_zero, List.set_cons_succ]
                refine wpAnyH_take (i := 9) rfl (by kernel_rfl) (by kernel_rfl) (by kernel_rfl) (fun _ _ _ h => h) (Or.inl ⟨by rfl, fun X hSw => by ((try dsimp only at hSw); go_simp; try with_reducible rfl)⟩) hHeld ?_
                try simp only [Act.put, List.getElem_toArray, List.getElem_cons_zero, List.getElem_cons_succ, List.setIfInBounds_toArray, List.set_cons_zero, List.set_cons_succ]
                refine wpAnyH_take (i := 10) rfl (by kernel_rfl) (by kernel_rfl) (by kernel_rfl) (fun _ _ _ h => h) (Or.inl ⟨by rfl, fun X hSw => by ((try dsimp only at hSw); go_simp; try with_reducible rfl)⟩) hHeld ?_
                try simp only [Act.put, List.getElem_toArray, List.getElem_cons_zero, List.getElem_cons_succ, List.setIfInBounds_toArray, List.set_cons_zero, List.set_cons_succ]
                refine wpAnyH_take (i := 11) rfl (by kernel_rfl) (by kernel_rfl) (by kernel_rfl) (fun _ _ _ h => h) (Or.inl ⟨by rfl, fun X hSw => by ((try dsimp only at hSw); go_simp; try with_reducible rfl)⟩) hHeld ?_
                try simp only [Act.put, List.getElem_toArray, List.getElem_cons_zero, List.getElem_cons_succ, List.setIfInBounds_toArray, List.set_cons_zero, List.set_cons_succ]
                refine wpAnyH_take (i := 12) rfl (by kernel_rfl) (by kernel_rfl) (by kernel_rfl) (fun _ _ _ h => h) (Or.inl ⟨by rfl, fun X hSw => by ((try dsimp only at hSw); go_simp; try with_reducible rfl)⟩) hHeld ?_
                try simp only [Act.put, List.getElem_toArray, List.getElem_cons_zero, List.getElem_cons_succ, List.setIfInBounds_toArray, List.set_cons_zero, List.set_cons_succ]
                refine wpAnyH_take (i := 13) rfl (by kernel_rfl) (by kernel_rfl) (by kernel_rfl) (fun _ _ _ h => h) (Or.inl ⟨by rfl, fun X hSw => by ((try dsimp only at hSw); go_simp; try with_reducible rfl)⟩) hHeld ?_
                try simp only [Act.put, List.getElem_toArray, List.getElem_cons_zero, List.getElem_cons_succ, List.setIfInBounds_toArray, List.set_cons_zero, List.set_cons_succ]
                refine wpAnyH_take (i := 14) rfl (by kernel_rfl) (by kernel_rfl) (by kernel_rfl) (fun _ _ _ h => h) (Or.inl ⟨by rfl, fun X hSw => by ((try dsimp only at hSw); go_simp; try with_reducible rfl)⟩) hHeld ?_
                try simp only [Act.put, List.getElem_toArray, List.getElem_cons_zero, List.getElem_cons_succ, List.setIfInBounds_toArray, List.set_cons_zero, List.set_cons_succ]
                refine wpAnyH_take (i := 15) rfl (by kernel_rfl) (by kernel_rfl) (by kernel_rfl) (fun _ _ _ h => h) (Or.inl ⟨by rfl, fun X hSw => by ((try dsimp only at hSw); go_simp; try with_reducible rfl)⟩) hHeld ?_
                try simp only [Act.put, List.getElem_toArray, List.getElem_cons_zero, List.getElem_cons_succ, List.setIfInBounds_toArray, List.set_cons_zero, List.set_cons_succ]
                refine wpAnyH_take (i := 16) rfl (by kernel_rfl) (by kernel_rfl) (by kernel_rfl) (fun _ _ _ h => h) (Or.inl ⟨by rfl, fun X hSw => by ((try dsimp only at hSw); go_simp; try with_reducible rfl)⟩) hHeld ?_
                try simp only [Act.put, List.getElem_toArray, List.getElem_cons_zero, List.getElem_cons_succ, List.setIfInBounds_toArray, List.set_cons_zero, List.set_cons_succ]
                refine wpAnyH_take (i := 17) rfl (by kernel_rfl) (by kernel_rfl) (by kernel_rfl) (fun _ _ _ h => h) (Or.inl ⟨by rfl, fun X hSw => by ((try dsimp only at hSw); go_simp; try with_reducible rfl)⟩) hHeld ?_
                try simp only [Act.put, List.getElem_toArray, List.getElem_cons_zero, List.getElem_cons_succ, List.setIfInBounds_toArray, List.set_cons_zero, List.set_cons_succ]
                refine wpAnyH_take (i := 18) rfl (by kernel_rfl) (by kernel_rfl) (by kernel_rfl) (fun _ _ _ h => h) (Or.inl ⟨by rfl, fun X hSw => by ((try dsimp only at hSw); go_simp; try with_reducible rfl)⟩) hHeld ?_
                try simp only [Act.put, List.getElem_toArray, List.getElem_cons_zero, List.getElem_cons_succ, List.setIfInBounds_toArray, List.set_cons_zero, List.set_cons_succ]
                refine wpAnyH_take (i := 19) rfl (by kernel_rfl) (by kernel_rfl) (by kernel_rfl) (fun _ _ _ h => h) (Or.inl ⟨by rfl, fun X hSw => by ((try dsimp only at hSw); go_simp; try with_reducible rfl)⟩) hHeld ?_
                try simp only [Act.put, List.getElem_toArray, List.getElem_cons_zero, List.getElem_cons_succ, List.setIfInBounds_toArray, List.set_cons_zero, List.set_cons_succ]
                refine wpAnyH_take (i := 20) rfl (by kernel_rfl) (by kernel_rfl) (by kernel_rfl) (fun _ _ _ h => h) (Or.inl ⟨by rfl, fun X hSw => by ((try dsimp only at hSw); go_simp; try with_reducible rfl)⟩) hHeld ?_
                try simp only [Act.put, List.getElem_toArray, List.getElem_cons_zero, List.getElem_cons_succ, List.setIfInBounds_toArray, List.set_cons_zero, List.set_cons_succ]
                refine wpAnyH_take (i := 21) rfl (by kernel_rfl) (by kernel_rfl) (by kernel_rfl) (fun _ _ _ h => h) (Or.inl ⟨by rfl, fun X hSw => by ((try dsimp only at hSw); go_simp; try with_reducible rfl)⟩) hHeld ?_
                try simp only [Act.put, List.getElem_toArray, List.getElem_cons_zero, List.getElem_cons_succ, List.setIfInBounds_toArray, List.set_cons_zero, List.set_cons_succ]
                refine wpAnyH_take (i := 22) rfl (by kernel_rfl) (by kernel_rfl) (by kernel_rfl) (fun _ _ _ h => h) (Or.inl ⟨by rfl, fun X hSw => by ((try dsimp only at hSw); go_simp; try with_reducible rfl)⟩) hHeld ?_
                try simp only [Act.put, List.getElem_toArray, List.getElem_cons_zero, List.getElem_cons_succ, List.setIfInBounds_toArray, List.set_cons_zero, List.set_cons_succ]
                refine wpAnyH_done (by kernel_rfl) ?_ _
                refine NoPanic.normal ?_
                have hb2 : Below v3.heap.size v3 wr.drew := below_on hbel bdr
                go_wp2_with (fail)
                go_roundw
                case rel => exact ⟨k + 1, by omega, by go_num, ⟨NH + 1, by go_num, hst'⟩, hb2⟩
                case measure => simp [intOf]; omega
              · rw [if_neg hhit] at hst
                have hst' : Hid (NH = hitI x.s x.t (ia.take (k + 1))) := hst.symm
                clear hst
                by_cases t1 : 0 < x.t
                · by_cases t2 : x1.s = x.s
                  · have tS : (x1.s.toList == x.s.toList) = true := by rw [t2]; simp
                    have tT : (x1.t == x.t) = false := by
                      have : x1.t ≠ x.t := fun t3 => hhit ⟨t1, t2, t3⟩
                      simp [this]
                    clear t2 hhit
                    go_wp2_with (fail)
                    refine wp_region_noPanic ?_
                    refine wp_region_held_drew (S := fun w' => w'.cell? ⟨Bx, 0, none⟩ = some (.string x.s) ∧ w'.cell? ⟨Bx, 1, none⟩ = some (.int .i64 x.t) ∧ w'.cell? ⟨g, o + k * 4, none⟩ = some (.string x1.s) ∧ w'.cell? ⟨g, o + k * 4 + 1, none⟩ = some (.int .i64 x1.t)) (by kernel_rfl) (HKR _ (by repeat (with_reducible (first | exact Below.refl _ _ | refine below_drewL ?_)))) (fun hHeld => ?_)
                    refine wpAnyH_take (i := 0) rfl (by kernel_rfl) (by kernel_rfl) (by kernel_rfl) (fun _ _ _ h => h) (Or.inl ⟨by rfl, fun X hSw => by ((try dsimp only at hSw); go_simp; try with_reducible rfl)⟩) hHeld ?_
                    try simp only [Act.put, List.getElem_toArray, List.getElem_cons_zero, List.setIfInBounds_toArray, List.set_cons_zero, List.set_cons_succ]
                    refine wpAnyH_take (i := 1) rfl (by kernel_rfl) (by kernel_rfl) (by kernel_rfl) (fun _ _ _ h => h) (Or.inl ⟨by rfl, fun X hSw => by ((try dsimp only at hSw); go_simp; try with_reducible rfl)⟩) hHeld ?_
                    try simp only [Act.put, List.getElem_toArray, List.getElem_cons_zero, List.getElem_cons_succ, List.setIfInBounds_toArray, List.set_cons_zero, List.set_cons_succ]
                    refine wpAnyH_take (i := 2) rfl (by kernel_rfl) (by kernel_rfl) (by kernel_rfl) (fun _ _ _ h => h) (Or.inl ⟨by rfl, fun X hSw => by ((try dsimp only at hSw); go_simp; try with_reducible rfl)⟩) hHeld ?_
                    try simp only [Act.put, List.getElem_toArray, List.getElem_cons_zero, List.getElem_cons_succ, List.setIfInBounds_toArray, List.set_cons_zero, List.set_cons_succ]
                    refine wpAnyH_take (i := 3) rfl (by kernel_rfl) (by kernel_rfl) (by kernel_rfl) (fun _ _ _ h => h) (Or.inl ⟨by rfl, fun X hSw => by ((try dsimp only at hSw); go_simp; try with_reducible rfl)⟩) hHeld ?_
                    try simp only [Act.put, List.getElem_toArray, List.getElem_cons_zero, List.getElem_cons_succ, List.setIfInBounds_toArray, List.set_cons_zero, List.set_cons_succ]
                    refine wpAnyH_take (i := 4) rfl (by kernel_rfl) (by kernel_rfl) (by kernel_rfl) (fun _ _ _ h => h) (Or.inl ⟨by rfl, fun X hSw => by ((try dsimp only at hSw); go_simp; try with_reducible rfl)⟩) hHeld ?_
                    try simp only [Act.put, List.getElem_toArray, List.getElem_cons_zero, List.getElem_cons_succ, List.setIfInBounds_toArray, List.set_cons_zero, List.set_cons_succ]
                    refine wpAnyH_take (i := 5) rfl (by kernel_rfl) (by kernel_rfl) (by kernel_rfl) (fun _ _ _ h => h) (Or.inl ⟨by rfl, fun X hSw => by ((try dsimp only at hSw); go_simp; try with_reducible rfl)⟩) hHeld ?_
                    try simp only [Act.put, List.getElem_toArray, List.getElem_cons_zero, List.getElem_cons_succ, List.setIfInBounds_toArray, List.set_cons_zero, List.set_cons_succ]
                    refine wpAnyH_take (i := 6) rfl (by kernel_rfl) (by kernel_rfl) (by kernel_rfl) (fun _ _ _ h => h) (Or.inl ⟨by rfl, fun X hSw => by ((try dsimp only at hSw); go_simp; try with_reducible rfl)⟩) hHeld ?_
                    try simp only [Act.put, List.getElem_toArray, List.getElem_cons_zero, List.getElem_cons_succ, List.setIfInBounds_toArray, List.set_cons_zero, List.set_cons_succ]
                    refine wpAnyH_take (i := 7) rfl (by kernel_rfl) (by kernel_rfl) (by kernel_rfl) (fun _ _ _ h => h) (Or.inl ⟨by rfl, fun X hSw => by ((try dsimp only at hSw); go_simp; try with_reducible rfl)⟩) hHeld ?_
                    try simp only [Act.put, List.getElem_toArray, List.getElem_cons_zero, List.getElem_cons_succ, List.setIfInBounds_toArray, List.set_cons_zero, List.set_cons_succ]
                    refine wpAnyH_take (i := 8) rfl (by kernel_rfl) (by kernel_rfl) (by kernel_rfl) (fun _ _ _ h => h) (Or.inl ⟨by rfl, fun X hSw => by ((try dsimp only at hSw); go_simp; try with_reducible rfl)⟩) hHeld ?_
                    try simp only [Act.put, List.getElem_toArray, List.getElem_cons_zero, List.getElem_cons_succ, List.setIfInBounds_toArray, List.set_cons_zero, List.set_cons_succ]
                    refine wpAnyH_take (i := 9) rfl (by kernel_rfl) (by kernel_rfl) (by kernel_rfl) (fun _ _ _ h => h) (Or.inl ⟨by rfl, fun X hSw => by ((try dsimp only at hSw); go_simp; try with_reducible rfl)⟩) hHeld ?_
                    try simp only [Act.put, List.getElem_toArray, List.getElem_cons_zero, List.getElem_cons_succ, List.setIfInBounds_toArray, List.set_cons_zero, List.set_cons_succ]
                    refine wpAnyH_take (i := 10) rfl (by kernel_rfl) (by kernel_rfl) (by kernel_rfl) (fun _ _ _ h => h) (Or.inl ⟨by rfl, fun X hSw => by ((try dsimp only at hSw); go_simp; try with_reducible rfl)⟩) hHeld ?_
                    try simp only [Act.put, List.getElem_toArray, List.getElem_cons_zero, List.getElem_cons_succ, List.setIfInBounds_toArray, List.set_cons_zero, List.set_cons_succ]
                    refine wpAnyH_take (i := 11) rfl (by kernel_rfl) (by kernel_rfl) (by kernel_rfl) (fun _ _ _ h => h) (Or.inl ⟨by rfl, fun X hSw => by ((try dsimp only at hSw); go_simp; try with_reducible rfl)⟩) hHeld ?_
                    try simp only [Act.put, List.getElem_toArray, List.getElem_cons_zero, List.getElem_cons_succ, List.setIfInBounds_toArray, List.set_cons_zero, List.set_cons_succ]
                    refine wpAnyH_take (i := 12) rfl (by kernel_rfl) (by kernel_rfl) (by kernel_rfl) (fun _ _ _ h => h) (Or.inl ⟨by rfl, fun X hSw => by ((try dsimp only at hSw); go_simp; try with_reducible rfl)⟩) hHeld ?_
                    try simp only [Act.put, List.getElem_toArray, List.getElem_cons_zero, List.getElem_cons_succ, List.setIfInBounds_toArray, List.set_cons_zero, List.set_cons_succ]
                    refine wpAnyH_take (i := 13) rfl (by kernel_rfl) (by kernel_rfl) (by kernel_rfl) (fun _ _ _ h => h) (Or.inl ⟨by rfl, fun X hSw => by ((try dsimp only at hSw); go_simp; try with_reducible rfl)⟩) hHeld ?_
                    try simp only [Act.put, List.getElem_toArray, List.getElem_cons_zero, List.getElem_cons_succ, List.setIfInBounds_toArray, List.set_cons_zero, List.set_cons_succ]
                    refine wpAnyH_take (i := 14) rfl (by kernel_rfl) (by kernel_rfl) (by kernel_rfl) (fun _ _ _ h => h) (Or.inl ⟨by rfl, fun X hSw => by ((try dsimp only at hSw); go_simp; try with_reducible rfl)⟩) hHeld ?_
                    try simp only [Act.put, List.getElem_toArray, List.getElem_cons_zero, List.getElem_cons_succ, List.setIfInBounds_toArray, List.set_cons_zero, List.set_cons_succ]
                    refine wpAnyH_take (i := 15) rfl (by kernel_rfl) (by kernel_rfl) (by kernel_rfl) (fun _ _ _ h => h) (Or.inl ⟨by rfl, fun X hSw => by ((try dsimp only at hSw); go_simp; try with_reducible rfl)⟩) hHeld ?_
                    try simp only [Act.put, List.getElem_toArray, List.getElem_cons_zero, List.getElem_cons_succ, List.setIfInBounds_toArray, List.set_cons_zero, List.set_cons_succ]
                    refine wpAnyH_take (i := 16) rfl (by kernel_rfl) (by kernel_rfl) (by kernel_rfl) (fun _ _ _ h => h) (Or.inl ⟨by rfl, fun X hSw => by ((try dsimp only at hSw); go_simp; try with_reducible rfl)⟩) hHeld ?_
                    try simp only [Act.put, List.getElem_toArray, List.getElem_cons_zero, List.getElem_cons_succ, List.setIfInBounds_toArray, List.set_cons_zero, List.set_cons_succ]
                    refine wpAnyH_take (i := 17) rfl (by kernel_rfl) (by kernel_rfl) (by kernel_rfl) (fun _ _ _ h => h) (Or.inl ⟨by rfl, fun X hSw => by ((try dsimp only at hSw); go_simp; try with_reducible rfl)⟩) hHeld ?_
                    try simp only [Act.put, List.getElem_toArray, List.getElem_cons_zero, List.getElem_cons_succ, List.setIfInBounds_toArray, List.set_cons_zero, List.set_cons_succ]
                    refine wpAnyH_take (i := 18) rfl (by kernel_rfl) (by kernel_rfl) (by kernel_rfl) (fun _ _ _ h => h) (Or.inl ⟨by rfl, fun X hSw => by ((try dsimp only at hSw); go_simp; try with_reducible rfl)⟩) hHeld ?_
                    try simp only [Act.put, List.getElem_toArray, List.getElem_cons_zero, List.getElem_cons_succ, List.setIfInBounds_toArray, List.set_cons_zero, List.set_cons_succ]
                    refine wpAnyH_take (i := 19) rfl (by kernel_rfl) (by kernel_rfl) (by kernel_rfl) (fun _ _ _ h => h) (Or.inl ⟨by rfl, fun X hSw => by ((try dsimp only at hSw); go_simp; try with_reducible rfl)⟩) hHeld ?_
                    try simp only [Act.put, List.getElem_toArray, List.getElem_cons_zero, List.getElem_cons_succ, List.setIfInBounds_toArray, List.set_cons_zero, List.set_cons_succ]
                    refine wpAnyH_take (i := 20) rfl (by kernel_rfl) (by kernel_rfl) (by kernel_rfl) (fun _ _ _ h => h) (Or.inl ⟨by rfl, fun X hSw => by ((try dsimp only at hSw); go_simp; try with_reducible rfl)⟩) hHeld ?_
                    try simp only [Act.put, List.getElem_toArray, List.getElem_cons_zero, List.getElem_cons_succ, List.setIfInBounds_toArray, List.set_cons_zero, List.set_cons_succ]
                    refine wpAnyH_take (i := 21) rfl (by kernel_rfl) (by kernel_rfl) (by kernel_rfl) (fun _ _ _ h => h) (Or.inl ⟨by rfl, fun X hSw => by ((try dsimp only at hSw); go_simp; try with_reducible rfl)⟩) hHeld ?_
                    try simp only [Act.put, List.getElem_toArray, List.getElem_cons_zero, List.getElem_cons_succ, List.setIfInBounds_toArray, List.set_cons_zero, List.set_cons_succ]
                    refine wpAnyH_take (i := 22) rfl (by kernel_rfl) (by kernel_rfl) (by kernel_rfl) (fun _ _ _ h => h) (Or.inl ⟨by rfl, fun X hSw => by ((try dsimp only at hSw); go_simp; try with_reducible rfl)⟩) hHeld ?_
                    try simp only [Act.put, List.getElem_toArray, List.getElem_cons_zero, List.getElem_cons_succ, List.setIfInBounds_toArray, List.set_cons_zero, List.set_cons_succ]
                    refine wpAnyH_done (by kernel_rfl) ?_ _
                    refine NoPanic.normal ?_
                    have hb2 : Below v3.heap.size v3 wr.drew := below_on hbel bdr
                    go_wp2_with (fail)
                    go_roundw
                    case rel => exact ⟨k + 1, by omega, by go_num, ⟨NH, rfl, hst'⟩, hb2⟩
                    case measure => simp [intOf]; omega
                  · have tS := str_ne t2
                    clear t2 hhit
                    go_wp2_with (fail)
                    refine wp_region_noPanic ?_
                    refine wp_region_held_drew (S := fun w' => w'.cell? ⟨Bx, 0, none⟩ = some (.string x.s) ∧ w'.cell? ⟨Bx, 1, none⟩ = some (.int .i64 x.t) ∧ w'.cell? ⟨g, o + k * 4, none⟩ = some (.string x1.s) ∧ w'.cell? ⟨g, o + k * 4 + 1, none⟩ = some (.int .i64 x1.t)) (by kernel_rfl) (HKR _ (by repeat (with_reducible (first | exact Below.refl _ _ | refine below_drewL ?_)))) (fun hHeld => ?_)
                    refine wpAnyH_take (i := 0) rfl (by kernel_rfl) (by kernel_rfl) (by kernel_rfl) (fun _ _ _ h => h) (Or.inl ⟨by rfl, fun X hSw => by ((try dsimp only at hSw); go_simp; try with_reducible rfl)⟩) hHeld ?_
                    try simp only [Act.put, List.getElem_toArray, List.getElem_cons_zero, List.setIfInBounds_toArray, List.set_cons_zero, List.set_cons_succ]
                    refine wpAnyH_take (i := 1) rfl (by kernel_rfl) (by kernel_rfl) (by kernel_rfl) (fun _ _ _ h => h) (Or.inl ⟨by rfl, fun X hSw => by ((try dsimp only at hSw); go_simp; try with_reducible rfl)⟩) hHeld ?_
                    try simp only [Act.put, List.getElem_toArray, List.getElem_cons_zero, List.getElem_cons_succ, List.setIfInBounds_toArray, List.set_cons_zero, List.set_cons_succ]
                    refine wpAnyH_take (i := 2) rfl (by kernel_rfl) (by kernel_rfl) (by kernel_rfl) (fun _ _ _ h => h) (Or.inl ⟨by rfl, fun X hSw => by ((try dsimp only at hSw); go_simp; try with_reducible rfl)⟩) hHeld ?_
                    try simp only [Act.put, List.getElem_toArray, List.getElem_cons_zero, List.getElem_cons_succ, List.setIfInBounds_toArray, List.set_cons_zero, List.set_cons_succ]
                    refine wpAnyH_take (i := 3) rfl (by kernel_rfl) (by kernel_rfl) (by kernel_rfl) (fun _ _ _ h => h) (Or.inl ⟨by rfl, fun X hSw => by ((try dsimp only at hSw); go_simp; try with_reducible rfl)⟩) hHeld ?_
                    try simp only [Act.put, List.getElem_toArray, List.getElem_cons_zero, List.getElem_cons_succ, List.setIfInBounds_toArray, List.set_cons_zero, List.set_cons_succ]
                    refine wpAnyH_take (i := 4) rfl (by kernel_rfl) (by kernel_rfl) (by kernel_rfl) (fun _ _ _ h => h) (Or.inl ⟨by rfl, fun X hSw => by ((try dsimp only at hSw); go_simp; try with_reducible rfl)⟩) hHeld ?_
                    try simp only [Act.put, List.getElem_toArray, List.getElem_cons_zero, List.getElem_cons_succ, List.setIfInBounds_toArray, List.set_cons_zero, List.set_cons_succ]
                    refine wpAnyH_take (i := 5) rfl (by kernel_rfl) (by kernel_rfl) (by kernel_rfl) (fun _ _ _ h => h) (Or.inl ⟨by rfl, fun X hSw => by ((try dsimp only at hSw); go_simp; try with_reducible rfl)⟩) hHeld ?_
                    try simp only [Act.put, List.getElem_toArray, List.getElem_cons_zero, List.getElem_cons_succ, List.setIfInBounds_toArray, List.set_cons_zero, List.set_cons_succ]
                    refine wpAnyH_take (i := 6) rfl (by kernel_rfl) (by kernel_rfl) (by kernel_rfl) (fun _ _ _ h => h) (Or.inl ⟨by rfl, fun X hSw => by ((try dsimp only at hSw); go_simp; try with_reducible rfl)⟩) hHeld ?_
                    try simp only [Act.put, List.getElem_toArray, List.getElem_cons_zero, List.getElem_cons_succ, List.setIfInBounds_toArray, List.set_cons_zero, List.set_cons_succ]
                    refine wpAnyH_take (i := 7) rfl (by kernel_rfl) (by kernel_rfl) (by kernel_rfl) (fun _ _ _ h => h) (Or.inl ⟨by rfl, fun X hSw => by ((try dsimp only at hSw); go_simp; try with_reducible rfl)⟩) hHeld ?_
                    try simp only [Act.put, List.getElem_toArray, List.getElem_cons_zero, List.getElem_cons_succ, List.setIfInBounds_toArray, List.set_cons_zero, List.set_cons_succ]
                    refine wpAnyH_take (i := 8) rfl (by kernel_rfl) (by kernel_rfl) (by kernel_rfl) (fun _ _ _ h => h) (Or.inl ⟨by rfl, fun X hSw => by ((try dsimp only at hSw); go_simp; try with_reducible rfl)⟩) hHeld ?_
                    try simp only [Act.put, List.getElem_toArray, List.getElem_cons_zero, List.getElem_cons_succ, List.setIfInBounds_toArray, List.set_cons_zero, List.set_cons_succ]
                    refine wpAnyH_take (i := 9) rfl (by kernel_rfl) (by kernel_rfl) (by kernel_rfl) (fun _ _ _ h => h) (Or.inl ⟨by rfl, fun X hSw => by ((try dsimp only at hSw); go_simp; try with_reducible rfl)⟩) hHeld ?_
                    try simp only [Act.put, List.getElem_toArray, List.getElem_cons_zero, List.getElem_cons_succ, List.setIfInBounds_toArray, List.set_cons_zero, List.set_cons_succ]
                    refine wpAnyH_take (i := 10) rfl (by kernel_rfl) (by kernel_rfl) (by kernel_rfl) (fun _ _ _ h => h) (Or.inl ⟨by rfl, fun X hSw => by ((try dsimp only at hSw); go_simp; try with_reducible rfl)⟩) hHeld ?_
                    try simp only [Act.put, List.getElem_toArray, List.getElem_cons_zero, List.getElem_cons_succ, List.setIfInBounds_toArray, List.set_cons_zero, List.set_cons_succ]
                    refine wpAnyH_take (i := 11) rfl (by kernel_rfl) (by kernel_rfl) (by kernel_rfl) (fun _ _ _ h => h) (Or.inl ⟨by rfl, fun X hSw => by ((try dsimp only at hSw); go_simp; try with_reducible rfl)⟩) hHeld ?_
                    try simp only [Act.put, List.getElem_toArray, List.getElem_cons_zero, List.getElem_cons_succ, List.setIfInBounds_toArray, List.set_cons_zero, List.set_cons_succ]
                    refine wpAnyH_take (i := 12) rfl (by kernel_rfl) (by kernel_rfl) (by kernel_rfl) (fun _ _ _ h => h) (Or.inl ⟨by rfl, fun X hSw => by ((try dsimp only at hSw); go_simp; try with_reducible rfl)⟩) hHeld ?_
                    try simp only [Act.put, List.getElem_toArray, List.getElem_cons_zero, List.getElem_cons_succ, List.setIfInBounds_toArray, List.set_cons_zero, List.set_cons_succ]
                    refine wpAnyH_take (i := 13) rfl (by kernel_rfl) (by kernel_rfl) (by kernel_rfl) (fun _ _ _ h => h) (Or.inl ⟨by rfl, fun X hSw => by ((try dsimp only at hSw); go_simp; try with_reducible rfl)⟩) hHeld ?_
                    try simp only [Act.put, List.getElem_toArray, List.getElem_cons_zero, List.getElem_cons_succ, List.setIfInBounds_toArray, List.set_cons_zero, List.set_cons_succ]
                    refine wpAnyH_take (i := 14) (v := undef) rfl (by kernel_rfl) (by kernel_rfl) (by kernel_rfl) (fun _ _ _ h => h) (Or.inr ⟨by rfl, rfl⟩) hHeld ?_
                    try simp only [Act.put, List.getElem_toArray, List.getElem_cons_zero, List.getElem_cons_succ, List.setIfInBounds_toArray, List.set_cons_zero, List.set_cons_succ]
                    refine wpAnyH_take (i := 15) (v := undef) rfl (by kernel_rfl) (by kernel_rfl) (by kernel_rfl) (fun _ _ _ h => h) (Or.inr ⟨by rfl, rfl⟩) hHeld ?_
                    try simp only [Act.put, List.getElem_toArray, List.getElem_cons_zero, List.getElem_cons_succ, List.setIfInBounds_toArray, List.set_cons_zero, List.set_cons_succ]
                    refine wpAnyH_take (i := 16) (v := undef) rfl (by kernel_rfl) (by kernel_rfl) (by kernel_rfl) (fun _ _ _ h => h) (Or.inr ⟨by rfl, rfl⟩) hHeld ?_
                    try simp only [Act.put, List.getElem_toArray, List.getElem_cons_zero, List.getElem_cons_succ, List.setIfInBounds_toArray, List.set_cons_zero, List.set_cons_succ]
                    refine wpAnyH_take (i := 17) (v := undef) rfl (by kernel_rfl) (by kernel_rfl) (by kernel_rfl) (fun _ _ _ h => h) (Or.inr ⟨by rfl, rfl⟩) hHeld ?_
                    try simp only [Act.put, List.getElem_toArray, List.getElem_cons_zero, List.getElem_cons_succ, List.setIfInBounds_toArray, List.set_cons_zero, List.set_cons_succ]
                    refine wpAnyH_take (i := 18) (v := undef) rfl (by kernel_rfl) (by kernel_rfl) (by kernel_rfl) (fun _ _ _ h => h) (Or.inr ⟨by rfl, rfl⟩) hHeld ?_
                    try simp only [Act.put, List.getElem_toArray, List.getElem_cons_zero, List.getElem_cons_succ, List.setIfInBounds_toArray, List.set_cons_zero, List.set_cons_succ]
                    refine wpAnyH_take (i := 19) (v := undef) rfl (by kernel_rfl) (by kernel_rfl) (by kernel_rfl) (fun _ _ _ h => h) (Or.inr ⟨by rfl, rfl⟩) hHeld ?_
                    try simp only [Act.put, List.getElem_toArray, List.getElem_cons_zero, List.getElem_cons_succ, List.setIfInBounds_toArray, List.set_cons_zero, List.set_cons_succ]
                    refine wpAnyH_take (i := 20) (v := undef) rfl (by kernel_rfl) (by kernel_rfl) (by kernel_rfl) (fun _ _ _ h => h) (Or.inr ⟨by rfl, rfl⟩) hHeld ?_
                    try simp only [Act.put, List.getElem_toArray, List.getElem_cons_zero, List.getElem_cons_succ, List.setIfInBounds_toArray, List.set_cons_zero, List.set_cons_succ]
                    refine wpAnyH_take (i := 21) (v := undef) rfl (by kernel_rfl) (by kernel_rfl) (by kernel_rfl) (fun _ _ _ h => h) (Or.inr ⟨by rfl, rfl⟩) hHeld ?_
                    try simp only [Act.put, List.getElem_toArray, List.getElem_cons_zero, List.getElem_cons_succ, List.setIfInBounds_toArray, List.set_cons_zero, List.set_cons_succ]
                    refine wpAnyH_take (i := 22) rfl (by kernel_rfl) (by kernel_rfl) (by kernel_rfl) (fun _ _ _ h => h) (Or.inl ⟨by rfl, fun X hSw => by ((try dsimp only at hSw); go_simp; try with_reducible rfl)⟩) hHeld ?_
                    try simp only [Act.put, List.getElem_toArray, List.getElem_cons_zero, List.getElem_cons_succ, List.setIfInBounds_toArray, List.set_cons_zero, List.set_cons_succ]
                    refine wpAnyH_done (by kernel_rfl) ?_ _
                    refine NoPanic.normal ?_
                    have hb2 : Below v3.heap.size v3 wr.drew := below_on hbel bdr
                    go_wp2_with (fail)
                    go_roundw
                    case rel => exact ⟨k + 1, by omega, by go_num, ⟨NH, rfl, hst'⟩, hb2⟩
                    case measure => simp [intOf]; omega
                · have t1' : (0 < x.t) = False := by simp [t1]
                  have t1'' : decide (0 < x.t) = false := by simp [t1]
                  clear hhit t1
                  go_wp2_with (fail)
                  refine wp_region_noPanic ?_
                  refine wp_region_held_drew (S := fun w' => w'.cell? ⟨Bx, 0, none⟩ = some (.string x.s) ∧ w'.cell? ⟨Bx, 1, none⟩ = some (.int .i64 x.t) ∧ w'.cell? ⟨g, o + k * 4, none⟩ = some (.string x1.s) ∧ w'.cell? ⟨g, o + k * 4 + 1, none⟩ = some (.int .i64 x1.t)) (by kernel_rfl) (HKR _ (by repeat (with_reducible (first | exact Below.refl _ _ | refine below_drewL ?_)))) (fun hHeld => ?_)
                  refine wpAnyH_take (i := 0) rfl (by kernel_rfl) (by kernel_rfl) (by kernel_rfl) (fun _ _ _ h => h) (Or.inl ⟨by rfl, fun X hSw => by ((try dsimp only at hSw); go_simp; try with_reducible rfl)⟩) hHeld ?_
                  try simp only [Act.put, List.getElem_toArray, List.getElem_cons_zero, List.setIfInBounds_toArray, List.set_cons_zero, List.set_cons_succ]
                  refine wpAnyH_take (i := 1) rfl (by kernel_rfl) (by kernel_rfl) (by kernel_rfl) (fun _ _ _ h => h) (Or.inl ⟨by rfl, fun X hSw => by ((try dsimp only at hSw); go_simp; try with_reducible rfl)⟩) hHeld ?_
                  try simp only [Act.put, List.getElem_toArray, List.getElem_cons_zero, List.getElem_cons_succ, List.setIfInBounds_toArray, List.set_cons_zero, List.set_cons_succ]
                  refine wpAnyH_take (i := 2) rfl (by kernel_rfl) (by kernel_rfl) (by kernel_rfl) (fun _ _ _ h => h) (Or.inl ⟨by rfl, fun X hSw => by ((try dsimp only at hSw); go_simp; try with_reducible rfl)⟩) hHeld ?_
                  try simp only [Act.put, List.getElem_toArray, List.getElem_cons_zero, List.getElem_cons_succ, List.setIfInBounds_toArray, List.set_cons_zero, List.set_cons_succ]
                  refine wpAnyH_take (i := 3) rfl (by kernel_rfl) (by kernel_rfl) (by kernel_rfl) (fun _ _ _ h => h) (Or.inl ⟨by rfl, fun X hSw => by ((try dsimp only at hSw); go_simp; try with_reducible rfl)⟩) hHeld ?_
                  try simp only [Act.put, List.getElem_toArray, List.getElem_cons_zero, List.getElem_cons_succ, List.setIfInBounds_toArray, List.set_cons_zero, List.set_cons_succ]
                  refine wpAnyH_take (i := 4) (v := undef) rfl (by kernel_rfl) (by kernel_rfl) (by kernel_rfl) (fun _ _ _ h => h) (Or.inr ⟨by rfl, rfl⟩) hHeld ?_
                  try simp only [Act.put, List.getElem_toArray, List.getElem_cons_zero, List.getElem_cons_succ, List.setIfInBounds_toArray, List.set_cons_zero, List.set_cons_succ]
                  refine wpAnyH_take (i := 5) (v := undef) rfl (by kernel_rfl) (by kernel_rfl) (by kernel_rfl) (fun _ _ _ h => h) (Or.inr ⟨by rfl, rfl⟩) hHeld ?_
                  try simp only [Act.put, List.getElem_toArray, List.getElem_cons_zero, List.getElem_cons_succ, List.setIfInBounds_toArray, List.set_cons_zero, List.set_cons_succ]
                  refine wpAnyH_take (i := 6) (v := undef) rfl (by kernel_rfl) (by kernel_rfl) (by kernel_rfl) (fun _ _ _ h => h) (Or.inr ⟨by rfl, rfl⟩) hHeld ?_
                  try simp only [Act.put, List.getElem_toArray, List.getElem_cons_zero, List.getElem_cons_succ, List.setIfInBounds_toArray, List.set_cons_zero, List.set_cons_succ]
                  refine wpAnyH_take (i := 7) (v := undef) rfl (by kernel_rfl) (by kernel_rfl) (by kernel_rfl) (fun _ _ _ h => h) (Or.inr ⟨by rfl, rfl⟩) hHeld ?_
                  try simp only [Act.put, List.getElem_toArray, List.getElem_cons_zero, List.getElem_cons_succ, List.setIfInBounds_toArray, List.set_cons_zero, List.set_cons_succ]
                  refine wpAnyH_take (i := 8) (v := undef) rfl (by kernel_rfl) (by kernel_rfl) (by kernel_rfl) (fun _ _ _ h => h) (Or.inr ⟨by rfl, rfl⟩) hHeld ?_
                  try simp only [Act.put, List.getElem_toArray, List.getElem_cons_zero, List.getElem_cons_succ, List.setIfInBounds_toArray, List.set_cons_zero, List.set_cons_succ]
                  refine wpAnyH_take (i := 9) (v := undef) rfl (by kernel_rfl) (by kernel_rfl) (by kernel_rfl) (fun _ _ _ h => h) (Or.inr ⟨by rfl, rfl⟩) hHeld ?_
                  try simp only [Act.put, List.getElem_toArray, List.getElem_cons_zero, List.getElem_cons_succ, List.setIfInBounds_toArray, List.set_cons_zero, List.set_cons_succ]
                  refine wpAnyH_take (i := 10) (v := undef) rfl (by kernel_rfl) (by kernel_rfl) (by kernel_rfl) (fun _ _ _ h => h) (Or.inr ⟨by rfl, rfl⟩) hHeld ?_
                  try simp only [Act.put, List.getElem_toArray, List.getElem_cons_zero, List.getElem_cons_succ, List.setIfInBounds_toArray, List.set_cons_zero, List.set_cons_succ]
                  refine wpAnyH_take (i := 11) (v := undef) rfl (by kernel_rfl) (by kernel_rfl) (by kernel_rfl) (fun _ _ _ h => h) (Or.inr ⟨by rfl, rfl⟩) hHeld ?_
                  try simp only [Act.put, List.getElem_toArray, List.getElem_cons_zero, List.getElem_cons_succ, List.setIfInBounds_toArray, List.set_cons_zero, List.set_cons_succ]
                  refine wpAnyH_take (i := 12) rfl (by kernel_rfl) (by kernel_rfl) (by kernel_rfl) (fun _ _ _ h => h) (Or.inl ⟨by rfl, fun X hSw => by ((try dsimp only at hSw); go_simp; try with_reducible rfl)⟩) hHeld ?_
                  try simp only [Act.put, List.getElem_toArray, List.getElem_cons_zero, List.getElem_cons_succ, List.setIfInBounds_toArray, List.set_cons_zero, List.set_cons_succ]
                  refine wpAnyH_take (i := 13) rfl (by kernel_rfl) (by kernel_rfl) (by kernel_rfl) (fun _ _ _ h => h) (Or.inl ⟨by rfl, fun X hSw => by ((try dsimp only at hSw); go_simp; try with_reducible rfl)⟩) hHeld ?_
                  try simp only [Act.put, List.getElem_toArray, List.getElem_cons_zero, List.getElem_cons_succ, List.setIfInBounds_toArray, List.set_cons_zero, List.set_cons_succ]
                  refine wpAnyH_take (i := 14) (v := undef) rfl (by kernel_rfl) (by kernel_rfl) (by kernel_rfl) (fun _ _ _ h => h) (Or.inr ⟨by rfl, rfl⟩) hHeld ?_
                  try simp only [Act.put, List.getElem_toArray, List.getElem_cons_zero, List.getElem_cons_succ, List.setIfInBounds_toArray, List.set_cons_zero, List.set_cons_succ]
                  refine wpAnyH_take (i := 15) (v := undef) rfl (by kernel_rfl) (by kernel_rfl) (by kernel_rfl) (fun _ _ _ h => h) (Or.inr ⟨by rfl, rfl⟩) hHeld ?_
                  try simp only [Act.put, List.getElem_toArray, List.getElem_cons_zero, List.getElem_cons_succ, List.setIfInBounds_toArray, List.set_cons_zero, List.set_cons_succ]
                  refine wpAnyH_take (i := 16) (v := undef) rfl (by kernel_rfl) (by kernel_rfl) (by kernel_rfl) (fun _ _ _ h => h) (Or.inr ⟨by rfl, rfl⟩) hHeld ?_
                  try simp only [Act.put, List.getElem_toArray, List.getElem_cons_zero, List.getElem_cons_succ, List.setIfInBounds_toArray, List.set_cons_zero, List.set_cons_succ]
                  refine wpAnyH_take (i := 17) (v := undef) rfl (by kernel_rfl) (by kernel_rfl) (by kernel_rfl) (fun _ _ _ h => h) (Or.inr ⟨by rfl, rfl⟩) hHeld ?_
                  try simp only [Act.put, List.getElem_toArray, List.getElem_cons_zero, List.getElem_cons_succ, List.setIfInBounds_toArray, List.set_cons_zero, List.set_cons_succ]
                  refine wpAnyH_take (i := 18) (v := undef) rfl (by kernel_rfl) (by kernel_rfl) (by kernel_rfl) (fun _ _ _ h => h) (Or.inr ⟨by rfl, rfl⟩) hHeld ?_
                  try simp only [Act.put, List.getElem_toArray, List.getElem_cons_zero, List.getElem_cons_succ, List.setIfInBounds_toArray, List.set_cons_zero, List.set_cons_succ]
                  refine wpAnyH_take (i := 19) (v := undef) rfl (by kernel_rfl) (by kernel_rfl) (by kernel_rfl) (fun _ _ _ h => h) (Or.inr ⟨by rfl, rfl⟩) hHeld ?_
                  try simp only [Act.put, List.getElem_toArray, List.getElem_cons_zero, List.getElem_cons_succ, List.setIfInBounds_toArray, List.set_cons_zero, List.set_cons_succ]
                  refine wpAnyH_take (i := 20) (v := undef) rfl (by kernel_rfl) (by kernel_rfl) (by kernel_rfl) (fun _ _ _ h => h) (Or.inr ⟨by rfl, rfl⟩) hHeld ?_
                  try simp only [Act.put, List.getElem_toArray, List.getElem_cons_zero, List.getElem_cons_succ, List.setIfInBounds_toArray, List.set_cons_zero, List.set_cons_succ]
                  refine wpAnyH_take (i := 21) (v := undef) rfl (by kernel_rfl) (by kernel_rfl) (by kernel_rfl) (fun _ _ _ h => h) (Or.inr ⟨by rfl, rfl⟩) hHeld ?_
                  try simp only [Act.put, List.getElem_toArray, List.getElem_cons_zero, List.getElem_cons_succ, List.setIfInBounds_toArray, List.set_cons_zero, List.set_cons_succ]
                  refine wpAnyH_take (i := 22) rfl (by kernel_rfl) (by kernel_rfl) (by kernel_rfl) (fun _ _ _ h => h) (Or.inl ⟨by rfl, fun X hSw => by ((try dsimp only at hSw); go_simp; try with_reducible rfl)⟩) hHeld ?_
                  try simp only [Act.put, List.getElem_toArray, List.getElem_cons_zero, List.getElem_cons_succ, List.setIfInBounds_toArray, List.set_cons_zero, List.set_cons_succ]
                  refine wpAnyH_done (by kernel_rfl) ?_ _
                  refine NoPanic.normal ?_
                  have hb2 : Below v3.heap.size v3 wr.drew := below_on hbel bdr
                  go_wp2_with (fail)
                  go_roundw
                  case rel => exact ⟨k + 1, by omega, by go_num, ⟨NH, rfl, hst'⟩, hb2⟩
                  case measure => simp [intOf]; omega
            · have hkn : k = nA := by omega
              subst hkn
              rw [show ia.take k = ia by rw [← hal, List.take_length]] at hNH
              obtain ⟨m, hm⟩ : ∃ m, m = k - 1 := ⟨_, rfl⟩
              have hsub : (k : Int) - 1 = (m : Int) := by omega
              have hm1 : m < k := by omega
              have hm0 : (0 : Int) ≤ (m : Int) := by omega
              have hm2 : (m : Int) < (k : Int) := by omega
              rw [← hm] at hh3
              clear hm
              have hwm : IntKind.i64.wrap (m : Int) = (m : Int) := by rw [IntKind.wrap_i64]; omega
              have hws : IntKind.i64.wrap ((k : Int) - 1) = (m : Int) := by rw [hsub]; exact hwm
              obtain ⟨g, o, rfl, hcs⟩ := itemsIn_on ra.items hbel (by omega)
              obtain ⟨x1, hx1⟩ : ∃ x1, ia.getD m default = x1 := ⟨_, rfl⟩
              obtain ⟨l0, l1, l2, l3⟩ := ItemsIn.at hcs hm1 hx1
              have hx1m : x1 ∈ ia := hx1 ▸ getD_mem (by omega)
              rw [hx1] at hh3
              obtain ⟨y1, y2, y3⟩ := (sa.lies ra x1 hx1m).on hbel
              have oxb : Own 5 wr _ _ (.slice x.p x.n x.c) x.n x.xs := ox.on hbel
              have hc4 := hh3.out
              simp only [ItA.con, Prod.mk.injEq] at hc4
              obtain ⟨c1, c2, c3, c4⟩ := hc4
              have hn1 : x1.n = x.n := by rw [← y2, c4]; exact oxb.len
              have CSI : ∀ X, BytesIn X x1.p x1.n x1.xs → BytesIn X x.p x.n x.xs → Calls Try.prog 19 #[.agg #[.string x1.s, .int .i64 x1.t, .int .i64 x1.d, .slice x1.p x1.n x1.c], .agg #[.string x.s, .int .i64 x.t, .int .i64 x.d, .slice x.p x.n x.c]] X fun e w' => e = .returned (.bool true) ∧ Below X.heap.size X w' := by
                intro X g1 g2
                rw [c1, c2, c3, hn1]
                rw [hn1, c4] at g1
                exact sameItem_yes x.s x.t x.d x1.p x.p x.n x1.c x.c x.xs X oxb.len g1 g2
              have HKF : ∀ w', Below wr.heap.size wr w' → w'.cell? ⟨Bx, 0, none⟩ = some (.string x.s) ∧ w'.cell? ⟨Bx, 1, none⟩ = some (.int .i64 x.t) ∧ w'.cell? ⟨Bx, 2, none⟩ = some (.int .i64 x.d) ∧ w'.cell? ⟨Bx, 3, none⟩ = some (.slice x.p x.n x.c) ∧ w'.cell? ⟨g, o + m * 4, none⟩ = some (.string x1.s) ∧ w'.cell? ⟨g, o + m * 4 + 1, none⟩ = some (.int .i64 x1.t) ∧ w'.cell? ⟨g, o + m * 4 + 2, none⟩ = some (.int .i64 x1.d) ∧ w'.cell? ⟨g, o + m * 4 + 3, none⟩ = some (.slice x1.p x1.n x1.c) := fun w' hX => ⟨((Cw.on hX).2 0).1, ((Cw.on hX).2 1).1, ((Cw.on hX).2 2).1, ((Cw.on hX).2 3).1, (hX.cell (World.block_lt_of_cell? wr _ l0)).trans l0, (hX.cell (World.block_lt_of_cell? wr _ l1)).trans l1, (hX.cell (World.block_lt_of_cell? wr _ l2)).trans l2, (hX.cell (World.block_lt_of_cell? wr _ l3)).trans l3⟩
              have bdr : Below wr.heap.size wr wr.drew := (Below.refl _ _).drew
              have kE := below_on kV3 hbel
              have rai := itemsIn_on ra.items hbel
              clear hcs hh3 hx1 c1 c2 c3 c4 lx0 lx1 l0 l1 l2 l3 hn1 y1 y2 hx1m
              by_cases ht0 : x.t = 0
              · have ht1 : (x.t == 0) = true := by simp [ht0]
                clear hh1 hNH ht0
                go_wp2_with (fail)
                refine wp_region_noPanic ?_
                refine wp_region_held_drew (S := fun w' => w'.cell? ⟨Bx, 0, none⟩ = some (.string x.s) ∧ w'.cell? ⟨Bx, 1, none⟩ = some (.int .i64 x.t) ∧ w'.cell? ⟨Bx, 2, none⟩ = some (.int .i64 x.d) ∧ w'.cell? ⟨Bx, 3, none⟩ = some (.slice x.p x.n x.c) ∧ w'.cell? ⟨g, o + m * 4, none⟩ = some (.string x1.s) ∧ w'.cell? ⟨g, o + m * 4 + 1, none⟩ = some (.int .i64 x1.t) ∧ w'.cell? ⟨g, o + m * 4 + 2, none⟩ = some (.int .i64 x1.d) ∧ w'.cell? ⟨g, o + m * 4 + 3, none⟩ = some (.slice x1.p x1.n x1.c)) (by kernel_rfl) (HKF _ (by repeat (with_reducible (first | exact Below.refl _ _ | refine below_drewL ?_ | refine below_on ?_ bq2 | refine below_on ?_ bq1)))) (fun hHeld => ?_)
                refine wpAnyH_take (i := 0) rfl (by kernel_rfl) (by kernel_rfl) (by kernel_rfl) (fun _ _ _ h => h) (Or.inl ⟨by rfl, fun X hSw => by ((try dsimp only at hSw); go_simp; try with_reducible rfl)⟩) hHeld ?_
                try simp only [Act.put, List.getElem_toArray, List.getElem_cons_zero, List.setIfInBounds_toArray, List.set_cons_zero, List.set_cons_succ]
                refine wpAnyH_ready (rs := [1]) (by kernel_rfl) (by simp) ?_
                refine AllReadyH.cons rfl (fun K hK => ?_) AllReadyH.nil
                go_simp
                refine (CQA _ (itemsIn_on rai bdr)).mono ?_
                rintro z wq1 ⟨rfl, bq1⟩
                go_wp2_with (fail)
                refine hK.out _ _ (HKF _ (by repeat (with_reducible (first | exact Below.refl _ _ | refine below_drewL ?_ | refine below_on ?_ bq2 | refine below_on ?_ bq1)))) (fun hHeld => ?_)
                clear hK K
                try simp only [Act.put, List.getElem_toArray, List.getElem_cons_zero, List.getElem_cons_succ, List.setIfInBounds_toArray, List.set_cons_zero, List.set_cons_succ]
                refine wpAnyH_take (i := 2) rfl (by kernel_rfl) (by kernel_rfl) (by kernel_rfl) (fun _ _ _ h => h) (Or.inl ⟨by rfl, fun X hSw => by ((try dsimp only at hSw); go_simp; try with_reducible rfl)⟩) hHeld ?_
                try simp only [Act.put, List.getElem_toArray, List.getElem_cons_zero, List.getElem_cons_succ, List.setIfInBounds_toArray, List.set_cons_zero, List.set_cons_succ]
                refine wpAnyH_take (i := 3) rfl (by kernel_rfl) (by kernel_rfl) (by kernel_rfl) (fun _ _ _ h => h) (Or.inl ⟨by rfl, fun X hSw => by ((try dsimp only at hSw); go_simp; try with_reducible rfl)⟩) hHeld ?_
                try simp only [Act.put, List.getElem_toArray, List.getElem_cons_zero, List.getElem_cons_succ, List.setIfInBounds_toArray, List.set_cons_zero, List.set_cons_succ]
                refine wpAnyH_take (i := 4) rfl (by kernel_rfl) (by kernel_rfl) (by kernel_rfl) (fun _ _ _ h => h) (Or.inl ⟨by rfl, fun X hSw => by ((try dsimp only at hSw); go_simp; try with_reducible rfl)⟩) hHeld ?_
                try simp only [Act.put, List.getElem_toArray, List.getElem_cons_zero, List.getElem_cons_succ, List.setIfInBounds_toArray, List.set_cons_zero, List.set_cons_succ]
                refine wpAnyH_take (i := 5) rfl (by kernel_rfl) (by kernel_rfl) (by kernel_rfl) (fun _ _ _ h => h) (Or.inl ⟨by rfl, fun X hSw => by ((try dsimp only at hSw); go_simp; try with_reducible rfl)⟩) hHeld ?_
                try simp only [Act.put, List.getElem_toArray, List.getElem_cons_zero, List.getElem_cons_succ, List.setIfInBounds_toArray, List.set_cons_zero, List.set_cons_succ]
                refine wpAnyH_take (i := 6) rfl (by kernel_rfl) (by kernel_rfl) (by kernel_rfl) (fun _ _ _ h => h) (Or.inl ⟨by rfl, fun X hSw => by ((try dsimp only at hSw); go_simp; try with_reducible rfl)⟩) hHeld ?_
                try simp only [Act.put, List.getElem_toArray, List.getElem_cons_zero, List.getElem_cons_succ, List.setIfInBounds_toArray, List.set_cons_zero, List.set_cons_succ]
                refine wpAnyH_take (i := 7) rfl (by kernel_rfl) (by kernel_rfl) (by kernel_rfl) (fun _ _ _ h => h) (Or.inl ⟨by rfl, fun X hSw => by ((try dsimp only at hSw); go_simp; try with_reducible rfl)⟩) hHeld ?_
                try simp only [Act.put, List.getElem_toArray, List.getElem_cons_zero, List.getElem_cons_succ, List.setIfInBounds_toArray, List.set_cons_zero, List.set_cons_succ]
                refine wpAnyH_take (i := 8) rfl (by kernel_rfl) (by kernel_rfl) (by kernel_rfl) (fun _ _ _ h => h) (Or.inl ⟨by rfl, fun X hSw => by ((try dsimp only at hSw); go_simp; try with_reducible rfl)⟩) hHeld ?_
                try simp only [Act.put, List.getElem_toArray, List.getElem_cons_zero, List.getElem_cons_succ, List.setIfInBounds_toArray, List.set_cons_zero, List.set_cons_succ]
                refine wpAnyH_take (i := 9) rfl (by kernel_rfl) (by kernel_rfl) (by kernel_rfl) (fun _ _ _ h => h) (Or.inl ⟨by rfl, fun X hSw => by ((try dsimp only at hSw); go_simp; try with_reducible rfl)⟩) hHeld ?_
                try simp only [Act.put, List.getElem_toArray, List.getElem_cons_zero, List.getElem_cons_succ, List.setIfInBounds_toArray, List.set_cons_zero, List.set_cons_succ]
                refine wpAnyH_ready (rs := [10]) (by kernel_rfl) (by simp) ?_
                refine AllReadyH.cons rfl (fun K hK => ?_) AllReadyH.nil
                go_simp
                refine (CSI _ (in_below y3 (below_on bdr bq1)) (in_below oxb.bytes (below_on bdr bq1))).mono ?_
                rintro z wq2 ⟨rfl, bq2⟩
                go_wp2_with (fail)
                refine hK.out _ _ (HKF _ (by repeat (with_reducible (first | exact Below.refl _ _ | refine below_drewL ?_ | refine below_on ?_ bq2 | refine below_on ?_ bq1)))) (fun hHeld => ?_)
                clear hK K
                try simp only [Act.put, List.getElem_toArray, List.getElem_cons_zero, List.getElem_cons_succ, List.setIfInBounds_toArray, List.set_cons_zero, List.set_cons_succ]
                refine wpAnyH_take (i := 11) rfl (by kernel_rfl) (by kernel_rfl) (by kernel_rfl) (fun _ _ _ h => h) (Or.inl ⟨by rfl, fun X hSw => by ((try dsimp only at hSw); go_simp; try with_reducible rfl)⟩) hHeld ?_
                try simp only [Act.put, List.getElem_toArray, List.getElem_cons_zero, List.getElem_cons_succ, List.setIfInBounds_toArray, List.set_cons_zero, List.set_cons_succ]
                refine wpAnyH_take (i := 12) rfl (by kernel_rfl) (by kernel_rfl) (by kernel_rfl) (fun _ _ _ h => h) (Or.inl ⟨by rfl, fun X hSw => by ((try dsimp only at hSw); go_simp; try with_reducible rfl)⟩) hHeld ?_
                try simp only [Act.put, List.getElem_toArray, List.getElem_cons_zero, List.getElem_cons_succ, List.setIfInBounds_toArray, List.set_cons_zero, List.set_cons_succ]
                refine wpAnyH_take (i := 13) rfl (by kernel_rfl) (by kernel_rfl) (by kernel_rfl) (fun _ _ _ h => h) (Or.inl ⟨by rfl, fun X hSw => by ((try dsimp only at hSw); go_simp; try with_reducible rfl)⟩) hHeld ?_
                try simp only [Act.put, List.getElem_toArray, List.getElem_cons_zero, List.getElem_cons_succ, List.setIfInBounds_toArray, List.set_cons_zero, List.set_cons_succ]
                refine wpAnyH_take (i := 14) rfl (by kernel_rfl) (by kernel_rfl) (by kernel_rfl) (fun _ _ _ h => h) (Or.inl ⟨by rfl, fun X hSw => by ((try dsimp only at hSw); go_simp; try with_reducible rfl)⟩) hHeld ?_
                try simp only [Act.put, List.getElem_toArray, List.getElem_cons_zero, List.getElem_cons_succ, List.setIfInBounds_toArray, List.set_cons_zero, List.set_cons_succ]
                refine wpAnyH_take (i := 15) rfl (by kernel_rfl) (by kernel_rfl) (by kernel_rfl) (fun _ _ _ h => h) (Or.inl ⟨by rfl, fun X hSw => by ((try dsimp only at hSw); go_simp; try with_reducible rfl)⟩) hHeld ?_
                try simp only [Act.put, List.getElem_toArray, List.getElem_cons_zero, List.getElem_cons_succ, List.setIfInBounds_toArray, List.set_cons_zero, List.set_cons_succ]
                refine wpAnyH_take (i := 16) rfl (by kernel_rfl) (by kernel_rfl) (by kernel_rfl) (fun _ _ _ h => h) (Or.inl ⟨by rfl, fun X hSw => by ((try dsimp only at hSw); go_simp; try with_reducible rfl)⟩) hHeld ?_
                try simp only [Act.put, List.getElem_toArray, List.getElem_cons_zero, List.getElem_cons_succ, List.setIfInBounds_toArray, List.set_cons_zero, List.set_cons_succ]
                refine wpAnyH_take (i := 17) (v := undef) rfl (by kernel_rfl) (by kernel_rfl) (by kernel_rfl) (fun _ _ _ h => h) (Or.inr ⟨by rfl, rfl⟩) hHeld ?_
                try simp only [Act.put, List.getElem_toArray, List.getElem_cons_zero, List.getElem_cons_succ, List.setIfInBounds_toArray, List.set_cons_zero, List.set_cons_succ]
                refine wpAnyH_take (i := 18) (v := undef) rfl (by kernel_rfl) (by kernel_rfl) (by kernel_rfl) (fun _ _ _ h => h) (Or.inr ⟨by rfl, rfl⟩) hHeld ?_
                try simp only [Act.put, List.getElem_toArray, List.getElem_cons_zero, List.getElem_cons_succ, List.setIfInBounds_toArray, List.set_cons_zero, List.set_cons_succ]
                refine wpAnyH_take (i := 19) rfl (by kernel_rfl) (by kernel_rfl) (by kernel_rfl) (fun _ _ _ h => h) (Or.inl ⟨by rfl, fun X hSw => by ((try dsimp only at hSw); go_simp; try with_reducible rfl)⟩) hHeld ?_
                try simp only [Act.put, List.getElem_toArray, List.getElem_cons_zero, List.getElem_cons_succ, List.setIfInBounds_toArray, List.set_cons_zero, List.set_cons_succ]
                refine wpAnyH_take (i := 20) rfl (by kernel_rfl) (by kernel_rfl) (by kernel_rfl) (fun _ _ _ h => h) (Or.inl ⟨by rfl, fun X hSw => by ((try dsimp only at hSw); go_simp; try with_reducible rfl)⟩) hHeld ?_
                try simp only [Act.put, List.getElem_toArray, List.getElem_cons_zero, List.getElem_cons_succ, List.setIfInBounds_toArray, List.set_cons_zero, List.set_cons_succ]
                refine wpAnyH_take (i := 21) rfl (by kernel_rfl) (by kernel_rfl) (by kernel_rfl) (fun _ _ _ h => h) (Or.inl ⟨by rfl, fun X hSw => by ((try dsimp only at hSw); go_simp; try with_reducible rfl)⟩) hHeld ?_
                try simp only [Act.put, List.getElem_toArray, List.getElem_cons_zero, List.getElem_cons_succ, List.setIfInBounds_toArray, List.set_cons_zero, List.set_cons_succ]
                refine wpAnyH_done (by kernel_rfl) ?_ _
                refine NoPanic.normal ?_
                go_wp2_with (fail)
                go_ret
                exact ⟨rfl, below_on (below_on (below_on kE bdr) bq1) bq2⟩
              · have ht1 : (x.t == 0) = false := by simp [ht0]
                have hone : NH = 1 := by rw [hNH.out]; exact hh1.out (by omega)
                subst hone
                clear hh1 hNH ht0
                go_wp2_with (fail)
                go_region_held3 (fun w' => w'.cell? ⟨Bx, 0, none⟩ = some (.string x.s) ∧ w'.cell? ⟨Bx, 1, none⟩ = some (.int .i64 x.t) ∧ w'.cell? ⟨Bx, 2, none⟩ = some (.int .i64 x.d) ∧ w'.cell? ⟨Bx, 3, none⟩ = some (.slice x.p x.n x.c) ∧ w'.cell? ⟨g, o + m * 4, none⟩ = some (.string x1.s) ∧ w'.cell? ⟨g, o + m * 4 + 1, none⟩ = some (.int .i64 x1.t) ∧ w'.cell? ⟨g, o + m * 4 + 2, none⟩ = some (.int .i64 x1.d) ∧ w'.cell? ⟨g, o + m * 4 + 3, none⟩ = some (.slice x1.p x1.n x1.c)) (exact HKF _ (by repeat (with_reducible (first | exact Below.refl _ _ | refine below_drewL ?_ | refine below_on ?_ bq2 | refine below_on ?_ bq1)))) (first | (go_at_call 23; refine (CQA _ (itemsIn_on rai bdr)).mono ?_; rintro z1 wq1 ⟨rfl, bq1⟩) | (go_at_call 19; refine (CSI _ (in_below y3 (below_on bdr bq1)) (in_below oxb.bytes (below_on bdr bq1))).mono ?_; rintro z1 wq2 ⟨rfl, bq2⟩))
                all_goals
                  go_wp2_with (fail)
                  go_ret
                  exact ⟨rfl, below_on (below_on (below_on kE bdr) bq1) bq2⟩
      · have hGf : G = false := by rw [hG']; exact decide_eq_false hg
        have hgg : ((0 : Int) < (NT : Int)) = False := eq_false hg
        subst hGf
        clear hG2 hG' hNR
        go_wp2_with (fail)
        refine (COT _ rt.items).mono ?_
        rintro e v3 ⟨rfl, d3⟩
        replace rq := rq.on d3
        replace ra := ra.on d3
        replace ox := ox.on d3
        replace Cx := Cx.on d3
        have kV3 := below_on kV d3
        clear kV rt rr Cy COT COR d3 ly0
        cases F
        · obtain ⟨hLA, hn2⟩ := hF0.out rfl
          subst hn2
          have CAQ := fun X (r1 : ItemsIn X pa nA ia) (r2 : ItemsIn X pq nA iq) (l1 : ∀ x ∈ ia, x.Lies X) (l2 : ∀ x ∈ iq, x.Lies X) => sameItems_yes pa pq nA ca cq ia iq X (by omega) ra.len rq.len r1 r2 l1 l2 (ea.out.trans hLA)
          clear hF0 hF1 hLA
          go_wp2_with (fail)
          refine (CAQ _ ra.items rq.items (sa.lies ra) (sq.lies rq)).mono ?_
          rintro e v4 ⟨rfl, d4⟩
          go_wp2_with (fail)
          go_ret
          exact ⟨rfl, below_on kV3 d4⟩
        · obtain ⟨hnp, hxt, hall⟩ := hF1.out rfl
          obtain ⟨hh1, hh2, hh3⟩ := hall ia ea.out ra.lens
          replace hh1 : Hid (0 < x.t → hitI x.s x.t ia = 1) := hh1
          replace hh3 : Hid ((ia.getD (nA - 1) default).con = x.con) := hh3
          have CQA := fun X (r : ItemsIn X pa nA ia) => implQueueOk_any pa nA ca ia X (by omega) ra.len r sa.text
          rw [hh2] at CQA
          have hal := ra.len
          clear hF0 hF1 hall hh2 rq sq
          go_wp2_with (fail)
          try clear hne
          go_loopw [25, 26] (fun nn j wr => ∃ k : Nat, k ≤ nA ∧ j = .int .i64 k ∧ (∃ NH : Nat, nn = .int .i64 NH ∧ Hid (NH = hitI x.s x.t (ia.take k))) ∧ Below v3.heap.size v3 wr) (fun _ j _ => nA - (intOf j).toNat)
          case atStart => exact ⟨0, Nat.zero_le _, rfl, ⟨0, rfl, by rw [Hid]; simp [hitI]⟩, Below.refl _ _⟩
          case round =>
            obtain ⟨k, hk, rfl, ⟨NH, rfl, hNH⟩, hbel⟩ := hrel
            have hNl : NH ≤ 10 := by
              have h1 := hitI_le x.s x.t (ia.take k)
              rw [← hNH.out, List.length_take] at h1
              omega
            have Cw := Cx.on hbel
            have lx0 : wr.cell? ⟨Bx, 0, none⟩ = some (.string x.s) := (Cw.2 0).1
            have lx1 : wr.cell? ⟨Bx, 1, none⟩ = some (.int .i64 x.t) := (Cw.2 1).1
            by_cases hlt : k < nA
            · obtain ⟨g, o, rfl, hcs⟩ := itemsIn_on ra.items hbel (by omega)
              obtain ⟨x1, hx1⟩ : ∃ x1, ia.getD k default = x1 := ⟨_, rfl⟩
              obtain ⟨l0, l1, l2, l3⟩ := ItemsIn.at hcs hlt hx1
              have hst := hitI_step x.s x.t ia k (by omega)
              rw [hx1, ← hNH.out] at hst
              have HKR : ∀ w', Below wr.heap.size wr w' → w'.cell? ⟨Bx, 0, none⟩ = some (.string x.s) ∧ w'.cell? ⟨Bx, 1, none⟩ = some (.int .i64 x.t) ∧ w'.cell? ⟨g, o + k * 4, none⟩ = some (.string x1.s) ∧ w'.cell? ⟨g, o + k * 4 + 1, none⟩ = some (.int .i64 x1.t) := fun w' hX => ⟨((Cw.on hX).2 0).1, ((Cw.on hX).2 1).1, (hX.cell (World.block_lt_of_cell? wr _ l0)).trans l0, (hX.cell (World.block_lt_of_cell? wr _ l1)).trans l1⟩
              have bdr : Below wr.heap.size wr wr.drew := (Below.refl _ _).drew
              have hk0 : (0 : Int) ≤ (k : Int) := by omega
              have hk1 : (k : Int) < (nA : Int) := by omega
              clear hcs hx1 hNH CQA hh1 hh3 ea ra ox Cw lx0 lx1 l0 l1 l2 l3
              by_cases hhit : 0 < x.t ∧ x1.s = x.s ∧ x1.t = x.t
              · rw [if_pos hhit] at hst
                obtain ⟨t1, t2, t3⟩ := hhit
                have tS : (x1.s.toList == x.s.toList) = true := by rw [t2]; simp
                have tT : (x1.t == x.t) = true := by rw [t3]; simp
                have hst' : Hid (NH + 1 = hitI x.s x.t (ia.take (k + 1))) := hst.symm
                clear t2 t3 hst
                go_wp2_with (fail)
                refine wp_region_noPanic ?_
                refine wp_region_held_drew (S := fun w' => w'.cell? ⟨Bx, 0, none⟩ = some (.string x.s) ∧ w'.cell? ⟨Bx, 1, none⟩ = some (.int .i64 x.t) ∧ w'.cell? ⟨g, o + k * 4, none⟩ = some (.string x1.s) ∧ w'.cell? ⟨g, o + k * 4 + 1, none⟩ = some (.int .i64 x1.t)) (by kernel_rfl) (HKR _ (by repeat (with_reducible (first | exact Below.refl _ _ | refine below_drewL ?_)))) (fun hHeld => ?_)
                refine wpAnyH_take (i := 0) rfl (by kernel_rfl) (by kernel_rfl) (by kernel_rfl) (fun _ _ _ h => h) (Or.inl ⟨by rfl, fun X hSw => by ((try dsimp only at hSw); go_simp; try with_reducible rfl)⟩) hHeld ?_
                try simp only [Act.put, List.getElem_toArray, List.getElem_cons_zero, List.setIfInBounds_toArray, List.set_cons_zero, List.set_cons_succ]
                refine wpAnyH_take (i := 1) rfl (by kernel_rfl) (by kernel_rfl) (by kernel_rfl) (fun _ _ _ h => h) (Or.inl ⟨by rfl, fun X hSw => by ((try dsimp only at hSw); go_simp; try with_reducible rfl)⟩) hHeld ?_
                try simp only [Act.put, List.getElem_toArray, List.getElem_cons_zero, List.getElem_cons_succ, List.setIfInBounds_toArray, List.set_cons_zero, List.set_cons_succ]
                refine wpAnyH_take (i := 2) rfl (by kernel_rfl) (by kernel_rfl) (by kernel_rfl) (fun _ _ _ h => h) (Or.inl ⟨by rfl, fun X hSw => by ((try dsimp only at hSw); go_simp; try with_reducible rfl)⟩) hHeld ?_
                try simp only [Act.put, List.getElem_toArray, List.getElem_cons_zero, List.getElem_cons_succ, List.setIfInBounds_toArray, List.set_cons_zero, List.set_cons_succ]
                refine wpAnyH_take (i := 3) rfl (by kernel_rfl) (by kernel_rfl) (by kernel_rfl) (fun _ _ _ h => h) (Or.inl ⟨by rfl, fun X hSw => by ((try dsimp only at hSw); go_simp; try with_reducible rfl)⟩) hHeld ?_
                try simp only [Act.put, List.getElem_toArray, List.getElem_cons_zero, List.getElem_cons_succ, List.setIfInBounds_toArray, List.set_cons_zero, List.set_cons_succ]
                refine wpAnyH_take (i := 4) rfl (by kernel_rfl) (by kernel_rfl) (by kernel_rfl) (fun _ _ _ h => h) (Or.inl ⟨by rfl, fun X hSw => by ((try dsimp only at hSw); go_simp; try with_reducible rfl)⟩) hHeld ?_
                try simp only [Act.put, List.getElem_toArray, List.getElem_cons_zero, List.getElem_cons_succ, List.setIfInBounds_toArray, List.set_cons_zero, List.set_cons_succ]
                refine wpAnyH_take (i := 5) rfl (by kernel_rfl) (by kernel_rfl) (by kernel_rfl) (fun _ _ _ h => h) (Or.inl ⟨by rfl, fun X hSw => by ((try dsimp only at hSw); go_simp; try with_reducible rfl)⟩) hHeld ?_
                try simp only [Act.put, List.getElem_toArray, List.getElem_cons_zero, List.getElem_cons_succ, List.setIfInBounds_toArray, List.set_cons_zero, List.set_cons_succ]
                refine wpAnyH_take (i := 6) rfl (by kernel_rfl) (by kernel_rfl) (by kernel_rfl) (fun _ _ _ h => h) (Or.inl ⟨by rfl, fun X hSw => by ((try dsimp only at hSw); go_simp; try with_reducible rfl)⟩) hHeld ?_
                try simp only [Act.put, List.getElem_toArray, List.getElem_cons_zero, List.getElem_cons_succ, List.setIfInBounds_toArray, List.set_cons_zero, List.set_cons_succ]
                refine wpAnyH_take (i := 7) rfl (by kernel_rfl) (by kernel_rfl) (by kernel_rfl) (fun _ _ _ h => h) (Or.inl ⟨by rfl, fun X hSw => by ((try dsimp only at hSw); go_simp; try with_reducible rfl)⟩) hHeld ?_
                try simp only [Act.put, List.getElem_toArray, List.getElem_cons_zero, List.getElem_cons_succ, List.setIfInBounds_toArray, List.set_cons_zero, List.set_cons_succ]
                refine wpAnyH_take (i := 8) rfl (by kernel_rfl) (by kernel_rfl) (by kernel_rfl) (fun _ _ _ h => h) (Or.inl ⟨by rfl, fun X hSw => by ((try dsimp only at hSw); go_simp; try with_reducible rfl)⟩) hHeld ?_
                try simp only [Act.put, List.getElem_toArray, List.getElem_cons_zero, List.getElem_cons_succ, List.setIfInBounds_toArray, List.set_cons_zero, List.set_cons_succ]
                refine wpAnyH_take (i := 9) rfl (by kernel_rfl) (by kernel_rfl) (by kernel_rfl) (fun _ _ _ h => h) (Or.inl ⟨by rfl, fun X hSw => by ((try dsimp only at hSw); go_simp; try with_reducible rfl)⟩) hHeld ?_
                try simp only [Act.put, List.getElem_toArray, List.getElem_cons_zero, List.getElem_cons_succ, List.setIfInBounds_toArray, List.set_cons_zero, List.set_cons_succ]
                refine wpAnyH_take (i := 10) rfl (by kernel_rfl) (by kernel_rfl) (by kernel_rfl) (fun _ _ _ h => h) (Or.inl ⟨by rfl, fun X hSw => by ((try dsimp only at hSw); go_simp; try with_reducible rfl)⟩) hHeld ?_
                try simp only [Act.put, List.getElem_toArray, List.getElem_cons_zero, List.getElem_cons_succ, List.setIfInBounds_toArray, List.set_cons_zero, List.set_cons_succ]
                refine wpAnyH_take (i := 11) rfl (by kernel_rfl) (by kernel_rfl) (by kernel_rfl) (fun _ _ _ h => h) (Or.inl ⟨by rfl, fun X hSw => by ((try dsimp only at hSw); go_simp; try with_reducible rfl)⟩) hHeld ?_
                try simp only [Act.put, List.getElem_toArray, List.getElem_cons_zero, List.getElem_cons_succ, List.setIfInBounds_toArray, List.set_cons_zero, List.set_cons_succ]
                refine wpAnyH_take (i := 12) rfl (by kernel_rfl) (by kernel_rfl) (by kernel_rfl) (fun _ _ _ h => h) (Or.inl ⟨by rfl, fun X hSw => by ((try dsimp only at hSw); go_simp; try with_reducible rfl)⟩) hHeld ?_
                try simp only [Act.put, List.getElem_toArray, List.getElem_cons_zero, List.getElem_cons_succ, List.setIfInBounds_toArray, List.set_cons_zero, List.set_cons_succ]
                refine wpAnyH_take (i := 13) rfl (by kernel_rfl) (by kernel_rfl) (by kernel_rfl) (fun _ _ _ h => h) (Or.inl ⟨by rfl, fun X hSw => by ((try dsimp only at hSw); go_simp; try with_reducible rfl)⟩) hHeld ?_
                try simp only [Act.put, List.getElem_toArray, List.getElem_cons_zero, List.getElem_cons_succ, List.setIfInBounds_toArray, List.set_cons_zero, List.set_cons_succ]
                refine wpAnyH_take (i := 14) rfl (by kernel_rfl) (by kernel_rfl) (by kernel_rfl) (fun _ _ _ h => h) (Or.inl ⟨by rfl, fun X hSw => by ((try dsimp only at hSw); go_simp; try with_reducible rfl)⟩) hHeld ?_
                try simp only [Act.put, List.getElem_toArray, List.getElem_cons_zero, List.getElem_cons_succ, List.setIfInBounds_toArray, List.set_cons_zero, List.set_cons_succ]
                refine wpAnyH_take (i := 15) rfl (by kernel_rfl) (by kernel_rfl) (by kernel_rfl) (fun _ _ _ h => h) (Or.inl ⟨by rfl, fun X hSw => by ((try dsimp only at hSw); go_simp; try with_reducible rfl)⟩) hHeld ?_
                try simp only [Act.put, List.getElem_toArray, List.getElem_cons_zero, List.getElem_cons_succ, List.setIfInBounds_toArray, List.set_cons_zero, List.set_cons_succ]
                refine wpAnyH_take (i := 16) rfl (by kernel_rfl) (by kernel_rfl) (by kernel_rfl) (fun _ _ _ h => h) (Or.inl ⟨by rfl, fun X hSw => by ((try dsimp only at hSw); go_simp; try with_reducible rfl)⟩) hHeld ?_
                try simp only [Act.put, List.getElem_toArray, List.getElem_cons_zero, List.getElem_cons_succ, List.setIfInBounds_toArray, List.set_cons_zero, List.set_cons_succ]
                refine wpAnyH_take (i := 17) rfl (by kernel_rfl) (by kernel_rfl) (by kernel_rfl) (fun _ _ _ h => h) (Or.inl ⟨by rfl, fun X hSw => by ((try dsimp only at hSw); go_simp; try with_reducible rfl)⟩) hHeld ?_
                try simp only [Act.put, List.getElem_toArray, List.getElem_cons_zero, List.getElem_cons_succ, List.setIfInBounds_toArray, List.set_cons_zero, List.set_cons_succ]
                refine wpAnyH_take (i := 18) rfl (by kernel_rfl) (by kernel_rfl) (by kernel_rfl) (fun _ _ _ h => h) (Or.inl ⟨by rfl, fun X hSw => by ((try dsimp only at hSw); go_simp; try with_reducible rfl)⟩) hHeld ?_
                try simp only [Act.put, List.getElem_toArray, List.getElem_cons_zero, List.getElem_cons_succ, List.setIfInBounds_toArray, List.set_cons_zero, List.set_cons_succ]
                refine wpAnyH_take (i := 19) rfl (by kernel_rfl) (by kernel_rfl) (by kernel_rfl) (fun _ _ _ h => h) (Or.inl ⟨by rfl, fun X hSw => by ((try dsimp only at hSw); go_simp; try with_reducible rfl)⟩) hHeld ?_
                try simp only [Act.put, List.getElem_toArray, List.getElem_cons_zero, List.getElem_cons_succ, List.setIfInBounds_toArray, List.set_cons_zero, List.set_cons_succ]
                refine wpAnyH_take (i := 20) rfl (by kernel_rfl) (by kernel_rfl) (by kernel_rfl) (fun _ _ _ h => h) (Or.inl ⟨by rfl, fun X hSw => by ((try dsimp only at hSw); go_simp; try with_reducible rfl)⟩) hHeld ?_
                try simp only [Act.put, List.getElem_toArray, List.getElem_cons_zero, List.getElem_cons_succ, List.setIfInBounds_toArray, List.set_cons_zero, List.set_cons_succ]
                refine wpAnyH_take (i := 21) rfl (by kernel_rfl) (by kernel_rfl) (by kernel_rfl) (fun _ _ _ h => h) (Or.inl ⟨by rfl, fun X hSw => by ((try dsimp only at hSw); go_simp; try with_reducible rfl)⟩) hHeld ?_
                try simp only [Act.put, List.getElem_toArray, List.getElem_cons_zero, List.getElem_cons_succ, List.setIfInBounds_toArray, List.set_cons_zero, List.set_cons_succ]
                refine wpAnyH_take (i := 22) rfl (by kernel_rfl) (by kernel_rfl) (by kernel_rfl) (fun _ _ _ h => h) (Or.inl ⟨by rfl, fun X hSw => by ((try dsimp only at hSw); go_simp; try with_reducible rfl)⟩) hHeld ?_
                try simp only [Act.put, List.getElem_toArray, List.getElem_cons_zero, List.getElem_cons_succ, List.setIfInBounds_toArray, List.set_cons_zero, List.set_cons_succ]
                refine wpAnyH_done (by kernel_rfl) ?_ _
                refine NoPanic.normal ?_
                have hb2 : Below v3.heap.size v3 wr.drew := below_on hbel bdr
                go_wp2_with (fail)
                go_roundw
                case rel => exact ⟨k + 1, by omega, by go_num, ⟨NH + 1, by go_num, hst'⟩, hb2⟩
                case measure => simp [intOf]; omega
              · rw [if_neg hhit] at hst
                have hst' : Hid (NH = hitI x.s x.t (ia.take (k + 1))) := hst.symm
                clear hst
                by_cases t1 : 0 < x.t
                · by_cases t2 : x1.s = x.s
                  · have tS : (x1.s.toList == x.s.toList) = true := by rw [t2]; simp
                    have tT : (x1.t == x.t) = false := by
                      have : x1.t ≠ x.t := fun t3 => hhit ⟨t1, t2, t3⟩
                      simp [this]
                    clear t2 hhit
                    go_wp2_with (fail)
                    refine wp_region_noPanic ?_
                    refine wp_region_held_drew (S := fun w' => w'.cell? ⟨Bx, 0, none⟩ = some (.string x.s) ∧ w'.cell? ⟨Bx, 1, none⟩ = some (.int .i64 x.t) ∧ w'.cell? ⟨g, o + k * 4, none⟩ = some (.string x1.s) ∧ w'.cell? ⟨g, o + k * 4 + 1, none⟩ = some (.int .i64 x1.t)) (by kernel_rfl) (HKR _ (by repeat (with_reducible (first | exact Below.refl _ _ | refine below_drewL ?_)))) (fun hHeld => ?_)
                    refine wpAnyH_take (i := 0) rfl (by kernel_rfl) (by kernel_rfl) (by kernel_rfl) (fun _ _ _ h => h) (Or.inl ⟨by rfl, fun X hSw => by ((try dsimp only at hSw); go_simp; try with_reducible rfl)⟩) hHeld ?_
                    try simp only [Act.put, List.getElem_toArray, List.getElem_cons_zero, List.setIfInBounds_toArray, List.set_cons_zero, List.set_cons_succ]
                    refine wpAnyH_take (i := 1) rfl (by kernel_rfl) (by kernel_rfl) (by kernel_rfl) (fun _ _ _ h => h) (Or.inl ⟨by rfl, fun X hSw => by ((try dsimp only at hSw); go_simp; try with_reducible rfl)⟩) hHeld ?_
                    try simp only [Act.put, List.getElem_toArray, List.getElem_cons_zero, List.getElem_cons_succ, List.setIfInBounds_toArray, List.set_cons_zero, List.set_cons_succ]
                    refine wpAnyH_take (i := 2) rfl (by kernel_rfl) (by kernel_rfl) (by kernel_rfl) (fun _ _ _ h => h) (Or.inl ⟨by rfl, fun X hSw => by ((try dsimp only at hSw); go_simp; try with_reducible rfl)⟩) hHeld ?_
                    try simp only [Act.put, List.getElem_toArray, List.getElem_cons_zero, List.getElem_cons_succ, List.setIfInBounds_toArray, List.set_cons_zero, List.set_cons_succ]
                    refine wpAnyH_take (i := 3) rfl (by kernel_rfl) (by kernel_rfl) (by kernel_rfl) (fun _ _ _ h => h) (Or.inl ⟨by rfl, fun X hSw => by ((try dsimp only at hSw); go_simp; try with_reducible rfl)⟩) hHeld ?_
                    try simp only [Act.put, List.getElem_toArray, List.getElem_cons_zero, List.getElem_cons_succ, List.setIfInBounds_toArray, List.set_cons_zero, List.set_cons_succ]
                    refine wpAnyH_take (i := 4) rfl (by kernel_rfl) (by kernel_rfl) (by kernel_rfl) (fun _ _ _ h => h) (Or.inl ⟨by rfl, fun X hSw => by ((try dsimp only at hSw); go_simp; try with_reducible rfl)⟩) hHeld ?_
                    try simp only [Act.put, List.getElem_toArray, List.getElem_cons_zero, List.getElem_cons_succ, List.setIfInBounds_toArray, List.set_cons_zero, List.set_cons_succ]
                    refine wpAnyH_take (i := 5) rfl (by kernel_rfl) (by kernel_rfl) (by kernel_rfl) (fun _ _ _ h => h) (Or.inl ⟨by rfl, fun X hSw => by ((try dsimp only at hSw); go_simp; try with_reducible rfl)⟩) hHeld ?_
                    try simp only [Act.put, List.getElem_toArray, List.getElem_cons_zero, List.getElem_cons_succ, List.setIfInBounds_toArray, List.set_cons_zero, List.set_cons_succ]
                    refine wpAnyH_take (i := 6) rfl (by kernel_rfl) (by kernel_rfl) (by kernel_rfl) (fun _ _ _ h => h) (Or.inl ⟨by rfl, fun X hSw => by ((try dsimp only at hSw); go_simp; try with_reducible rfl)⟩) hHeld ?_
                    try simp only [Act.put, List.getElem_toArray, List.getElem_cons_zero, List.getElem_cons_succ, List.setIfInBounds_toArray, List.set_cons_zero, List.set_cons_succ]
                    refine wpAnyH_take (i := 7) rfl (by kernel_rfl) (by kernel_rfl) (by kernel_rfl) (fun _ _ _ h => h) (Or.inl ⟨by rfl, fun X hSw => by ((try dsimp only at hSw); go_simp; try with_reducible rfl)⟩) hHeld ?_
                    try simp only [Act.put, List.getElem_toArray, List.getElem_cons_zero, List.getElem_cons_succ, List.setIfInBounds_toArray, List.set_cons_zero, List.set_cons_succ]
                    refine wpAnyH_take (i := 8) rfl (by kernel_rfl) (by kernel_rfl) (by kernel_rfl) (fun _ _ _ h => h) (Or.inl ⟨by rfl, fun X hSw => by ((try dsimp only at hSw); go_simp; try with_reducible rfl)⟩) hHeld ?_
                    try simp only [Act.put, List.getElem_toArray, List.getElem_cons_zero, List.getElem_cons_succ, List.setIfInBounds_toArray, List.set_cons_zero, List.set_cons_succ]
                    refine wpAnyH_take (i := 9) rfl (by kernel_rfl) (by kernel_rfl) (by kernel_rfl) (fun _ _ _ h => h) (Or.inl ⟨by rfl, fun X hSw => by ((try dsimp only at hSw); go_simp; try with_reducible rfl)⟩) hHeld ?_
                    try simp only [Act.put, List.getElem_toArray, List.getElem_cons_zero, List.getElem_cons_succ, List.setIfInBounds_toArray, List.set_cons_zero, List.set_cons_succ]
                    refine wpAnyH_take (i := 10) rfl (by kernel_rfl) (by kernel_rfl) (by kernel_rfl) (fun _ _ _ h => h) (Or.inl ⟨by rfl, fun X hSw => by ((try dsimp only at hSw); go_simp; try with_reducible rfl)⟩) hHeld ?_
                    try simp only [Act.put, List.getElem_toArray, List.getElem_cons_zero, List.getElem_cons_succ, List.setIfInBounds_toArray, List.set_cons_zero, List.set_cons_succ]
                    refine wpAnyH_take (i := 11) rfl (by kernel_rfl) (by kernel_rfl) (by kernel_rfl) (fun _ _ _ h => h) (Or.inl ⟨by rfl, fun X hSw => by ((try dsimp only at hSw); go_simp; try with_reducible rfl)⟩) hHeld ?_
                    try simp only [Act.put, List.getElem_toArray, List.getElem_cons_zero, List.getElem_cons_succ, List.setIfInBounds_toArray, List.set_cons_zero, List.set_cons_succ]
                    refine wpAnyH_take (i := 12) rfl (by kernel_rfl) (by kernel_rfl) (by kernel_rfl) (fun _ _ _ h => h) (Or.inl ⟨by rfl, fun X hSw => by ((try dsimp only at hSw); go_simp; try with_reducible rfl)⟩) hHeld ?_
                    try simp only [Act.put, List.getElem_toArray, List.getElem_cons_zero, List.getElem_cons_succ, List.setIfInBounds_toArray, List.set_cons_zero, List.set_cons_succ]
                    refine wpAnyH_take (i := 13) rfl (by kernel_rfl) (by kernel_rfl) (by kernel_rfl) (fun _ _ _ h => h) (Or.inl ⟨by rfl, fun X hSw => by ((try dsimp only at hSw); go_simp; try with_reducible rfl)⟩) hHeld ?_
                    try simp only [Act.put, List.getElem_toArray, List.getElem_cons_zero, List.getElem_cons_succ, List.setIfInBounds_toArray, List.set_cons_zero, List.set_cons_succ]
                    refine wpAnyH_take (i := 14) rfl (by kernel_rfl) (by kernel_rfl) (by kernel_rfl) (fun _ _ _ h => h) (Or.inl ⟨by rfl, fun X hSw => by ((try dsimp only at hSw); go_simp; try with_reducible rfl)⟩) hHeld ?_
                    try simp only [Act.put, List.getElem_toArray, List.getElem_cons_zero, List.getElem_cons_succ, List.setIfInBounds_toArray, List.set_cons_zero, List.set_cons_succ]
                    refine wpAnyH_take (i := 15) rfl (by kernel_rfl) (by kernel_rfl) (by kernel_rfl) (fun _ _ _ h => h) (Or.inl ⟨by rfl, fun X hSw => by ((try dsimp only at hSw); go_simp; try with_reducible rfl)⟩) hHeld ?_
                    try simp only [Act.put, List.getElem_toArray, List.getElem_cons_zero, List.getElem_cons_succ, List.setIfInBounds_toArray, List.set_cons_zero, List.set_cons_succ]
                    refine wpAnyH_take (i := 16) rfl (by kernel_rfl) (by kernel_rfl) (by kernel_rfl) (fun _ _ _ h => h) (Or.inl ⟨by rfl, fun X hSw => by ((try dsimp only at hSw); go_simp; try with_reducible rfl)⟩) hHeld ?_
                    try simp only [Act.put, List.getElem_toArray, List.getElem_cons_zero, List.getElem_cons_succ, List.setIfInBounds_toArray, List.set_cons_zero, List.set_cons_succ]
                    refine wpAnyH_take (i := 17) rfl (by kernel_rfl) (by kernel_rfl) (by kernel_rfl) (fun _ _ _ h => h) (Or.inl ⟨by rfl, fun X hSw => by ((try dsimp only at hSw); go_simp; try with_reducible rfl)⟩) hHeld ?_
                    try simp only [Act.put, List.getElem_toArray, List.getElem_cons_zero, List.getElem_cons_succ, List.setIfInBounds_toArray, List.set_cons_zero, List.set_cons_succ]
                    refine wpAnyH_take (i := 18) rfl (by kernel_rfl) (by kernel_rfl) (by kernel_rfl) (fun _ _ _ h => h) (Or.inl ⟨by rfl, fun X hSw => by ((try dsimp only at hSw); go_simp; try with_reducible rfl)⟩) hHeld ?_
                    try simp only [Act.put, List.getElem_toArray, List.getElem_cons_zero, List.getElem_cons_succ, List.setIfInBounds_toArray, List.set_cons_zero, List.set_cons_succ]
                    refine wpAnyH_take (i := 19) rfl (by kernel_rfl) (by kernel_rfl) (by kernel_rfl) (fun _ _ _ h => h) (Or.inl ⟨by rfl, fun X hSw => by ((try dsimp only at hSw); go_simp; try with_reducible rfl)⟩) hHeld ?_
                    try simp only [Act.put, List.getElem_toArray, List.getElem_cons_zero, List.getElem_cons_succ, List.setIfInBounds_toArray, List.set_cons_zero, List.set_cons_succ]
                    refine wpAnyH_take (i := 20) rfl (by kernel_rfl) (by kernel_rfl) (by kernel_rfl) (fun _ _ _ h => h) (Or.inl ⟨by rfl, fun X hSw => by ((try dsimp only at hSw); go_simp; try with_reducible rfl)⟩) hHeld ?_
                    try simp only [Act.put, List.getElem_toArray, List.getElem_cons_zero, List.getElem_cons_succ, List.setIfInBounds_toArray, List.set_cons_zero, List.set_cons_succ]
                    refine wpAnyH_take (i := 21) rfl (by kernel_rfl) (by kernel_rfl) (by kernel_rfl) (fun _ _ _ h => h) (Or.inl ⟨by rfl, fun X hSw => by ((try dsimp only at hSw); go_simp; try with_reducible rfl)⟩) hHeld ?_
                    try simp only [Act.put, List.getElem_toArray, List.getElem_cons_zero, List.getElem_cons_succ, List.setIfInBounds_toArray, List.set_cons_zero, List.set_cons_succ]
                    refine wpAnyH_take (i := 22) rfl (by kernel_rfl) (by kernel_rfl) (by kernel_rfl) (fun _ _ _ h => h) (Or.inl ⟨by rfl, fun X hSw => by ((try dsimp only at hSw); go_simp; try with_reducible rfl)⟩) hHeld ?_
                    try simp only [Act.put, List.getElem_toArray, List.getElem_cons_zero, List.getElem_cons_succ, List.setIfInBounds_toArray, List.set_cons_zero, List.set_cons_succ]
                    refine wpAnyH_done (by kernel_rfl) ?_ _
                    refine NoPanic.normal ?_
                    have hb2 : Below v3.heap.size v3 wr.drew := below_on hbel bdr
                    go_wp2_with (fail)
                    go_roundw
                    case rel => exact ⟨k + 1, by omega, by go_num, ⟨NH, rfl, hst'⟩, hb2⟩
                    case measure => simp [intOf]; omega
                  · have tS := str_ne t2
                    clear t2 hhit
                    go_wp2_with (fail)
                    refine wp_region_noPanic ?_
                    refine wp_region_held_drew (S := fun w' => w'.cell? ⟨Bx, 0, none⟩ = some (.string x.s) ∧ w'.cell? ⟨Bx, 1, none⟩ = some (.int .i64 x.t) ∧ w'.cell? ⟨g, o + k * 4, none⟩ = some (.string x1.s) ∧ w'.cell? ⟨g, o + k * 4 + 1, none⟩ = some (.int .i64 x1.t)) (by kernel_rfl) (HKR _ (by repeat (with_reducible (first | exact Below.refl _ _ | refine below_drewL ?_)))) (fun hHeld => ?_)
                    refine wpAnyH_take (i := 0) rfl (by kernel_rfl) (by kernel_rfl) (by kernel_rfl) (fun _ _ _ h => h) (Or.inl ⟨by rfl, fun X hSw => by ((try dsimp only at hSw); go_simp; try with_reducible rfl)⟩) hHeld ?_
                    try simp only [Act.put, List.getElem_toArray, List.getElem_cons_zero, List.setIfInBounds_toArray, List.set_cons_zero, List.set_cons_succ]
                    refine wpAnyH_take (i := 1) rfl (by kernel_rfl) (by kernel_rfl) (by kernel_rfl) (fun _ _ _ h => h) (Or.inl ⟨by rfl, fun X hSw => by ((try dsimp only at hSw); go_simp; try with_reducible rfl)⟩) hHeld ?_
                    try simp only [Act.put, List.getElem_toArray, List.getElem_cons_zero, List.getElem_cons_succ, List.setIfInBounds_toArray, List.set_cons_zero, List.set_cons_succ]
                    refine wpAnyH_take (i := 2) rfl (by kernel_rfl) (by kernel_rfl) (by kernel_rfl) (fun _ _ _ h => h) (Or.inl ⟨by rfl, fun X hSw => by ((try dsimp only at hSw); go_simp; try with_reducible rfl)⟩) hHeld ?_
                    try simp only [Act.put, List.getElem_toArray, List.getElem_cons_zero, List.getElem_cons_succ, List.setIfInBounds_toArray, List.set_cons_zero, List.set_cons_succ]
                    refine wpAnyH_take (i := 3) rfl (by kernel_rfl) (by kernel_rfl) (by kernel_rfl) (fun _ _ _ h => h) (Or.inl ⟨by rfl, fun X hSw => by ((try dsimp only at hSw); go_simp; try with_reducible rfl)⟩) hHeld ?_
                    try simp only [Act.put, List.getElem_toArray, List.getElem_cons_zero, List.getElem_cons_succ, List.setIfInBounds_toArray, List.set_cons_zero, List.set_cons_succ]
                    refine wpAnyH_take (i := 4) rfl (by kernel_rfl) (by kernel_rfl) (by kernel_rfl) (fun _ _ _ h => h) (Or.inl ⟨by rfl, fun X hSw => by ((try dsimp only at hSw); go_simp; try with_reducible rfl)⟩) hHeld ?_
                    try simp only [Act.put, List.getElem_toArray, List.getElem_cons_zero, List.getElem_cons_succ, List.setIfInBounds_toArray, List.set_cons_zero, List.set_cons_succ]
                    refine wpAnyH_take (i := 5) rfl (by kernel_rfl) (by kernel_rfl) (by kernel_rfl) (fun _ _ _ h => h) (Or.inl ⟨by rfl, fun X hSw => by ((try dsimp only at hSw); go_simp; try with_reducible rfl)⟩) hHeld ?_
                    try simp only [Act.put, List.getElem_toArray, List.getElem_cons_zero, List.getElem_cons_succ, List.setIfInBounds_toArray, List.set_cons_zero, List.set_cons_succ]
                    refine wpAnyH_take (i := 6) rfl (by kernel_rfl) (by kernel_rfl) (by kernel_rfl) (fun _ _ _ h => h) (Or.inl ⟨by rfl, fun X hSw => by ((try dsimp only at hSw); go_simp; try with_reducible rfl)⟩) hHeld ?_
                    try simp only [Act.put, List.getElem_toArray, List.getElem_cons_zero, List.getElem_cons_succ, List.setIfInBounds_toArray, List.set_cons_zero, List.set_cons_succ]
                    refine wpAnyH_take (i := 7) rfl (by kernel_rfl) (by kernel_rfl) (by kernel_rfl) (fun _ _ _ h => h) (Or.inl ⟨by rfl, fun X hSw => by ((try dsimp only at hSw); go_simp; try with_reducible rfl)⟩) hHeld ?_
                    try simp only [Act.put, List.getElem_toArray, List.getElem_cons_zero, List.getElem_cons_succ, List.setIfInBounds_toArray, List.set_cons_zero, List.set_cons_succ]
                    refine wpAnyH_take (i := 8) rfl (by kernel_rfl) (by kernel_rfl) (by kernel_rfl) (fun _ _ _ h => h) (Or.inl ⟨by rfl, fun X hSw => by ((try dsimp only at hSw); go_simp; try with_reducible rfl)⟩) hHeld ?_
                    try simp only [Act.put, List.getElem_toArray, List.getElem_cons_zero, List.getElem_cons_succ, List.setIfInBounds_toArray, List.set_cons_zero, List.set_cons_succ]
                    refine wpAnyH_take (i := 9) rfl (by kernel_rfl) (by kernel_rfl) (by kernel_rfl) (fun _ _ _ h => h) (Or.inl ⟨by rfl, fun X hSw => by ((try dsimp only at hSw); go_simp; try with_reducible rfl)⟩) hHeld ?_
                    try simp only [Act.put, List.getElem_toArray, List.getElem_cons_zero, List.getElem_cons_succ, List.setIfInBounds_toArray, List.set_cons_zero, List.set_cons_succ]
                    refine wpAnyH_take (i := 10) rfl (by kernel_rfl) (by kernel_rfl) (by kernel_rfl) (fun _ _ _ h => h) (Or.inl ⟨by rfl, fun X hSw => by ((try dsimp only at hSw); go_simp; try with_reducible rfl)⟩) hHeld ?_
                    try simp only [Act.put, List.getElem_toArray, List.getElem_cons_zero, List.getElem_cons_succ, List.setIfInBounds_toArray, List.set_cons_zero, List.set_cons_succ]
                    refine wpAnyH_take (i := 11) rfl (by kernel_rfl) (by kernel_rfl) (by kernel_rfl) (fun _ _ _ h => h) (Or.inl ⟨by rfl, fun X hSw => by ((try dsimp only at hSw); go_simp; try with_reducible rfl)⟩) hHeld ?_
                    try simp only [Act.put, List.getElem_toArray, List.getElem_cons_zero, List.getElem_cons_succ, List.setIfInBounds_toArray, List.set_cons_zero, List.set_cons_succ]
                    refine wpAnyH_take (i := 12) rfl (by kernel_rfl) (by kernel_rfl) (by kernel_rfl) (fun _ _ _ h => h) (Or.inl ⟨by rfl, fun X hSw => by ((try dsimp only at hSw); go_simp; try with_reducible rfl)⟩) hHeld ?_
                    try simp only [Act.put, List.getElem_toArray, List.getElem_cons_zero, List.getElem_cons_succ, List.setIfInBounds_toArray, List.set_cons_zero, List.set_cons_succ]
                    refine wpAnyH_take (i := 13) rfl (by kernel_rfl) (by kernel_rfl) (by kernel_rfl) (fun _ _ _ h => h) (Or.inl ⟨by rfl, fun X hSw => by ((try dsimp only at hSw); go_simp; try with_reducible rfl)⟩) hHeld ?_
                    try simp only [Act.put, List.getElem_toArray, List.getElem_cons_zero, List.getElem_cons_succ, List.setIfInBounds_toArray, List.set_cons_zero, List.set_cons_succ]
                    refine wpAnyH_take (i := 14) (v := undef) rfl (by kernel_rfl) (by kernel_rfl) (by kernel_rfl) (fun _ _ _ h => h) (Or.inr ⟨by rfl, rfl⟩) hHeld ?_
                    try simp only [Act.put, List.getElem_toArray, List.getElem_cons_zero, List.getElem_cons_succ, List.setIfInBounds_toArray, List.set_cons_zero, List.set_cons_succ]
                    refine wpAnyH_take (i := 15) (v := undef) rfl (by kernel_rfl) (by kernel_rfl) (by kernel_rfl) (fun _ _ _ h => h) (Or.inr ⟨by rfl, rfl⟩) hHeld ?_
                    try simp only [Act.put, List.getElem_toArray, List.getElem_cons_zero, List.getElem_cons_succ, List.setIfInBounds_toArray, List.set_cons_zero, List.set_cons_succ]
                    refine wpAnyH_take (i := 16) (v := undef) rfl (by kernel_rfl) (by kernel_rfl) (by kernel_rfl) (fun _ _ _ h => h) (Or.inr ⟨by rfl, rfl⟩) hHeld ?_
                    try simp only [Act.put, List.getElem_toArray, List.getElem_cons_zero, List.getElem_cons_succ, List.setIfInBounds_toArray, List.set_cons_zero, List.set_cons_succ]
                    refine wpAnyH_take (i := 17) (v := undef) rfl (by kernel_rfl) (by kernel_rfl) (by kernel_rfl) (fun _ _ _ h => h) (Or.inr ⟨by rfl, rfl⟩) hHeld ?_
                    try simp only [Act.put, List.getElem_toArray, List.getElem_cons_zero, List.getElem_cons_succ, List.setIfInBounds_toArray, List.set_cons_zero, List.set_cons_succ]
                    refine wpAnyH_take (i := 18) (v := undef) rfl (by kernel_rfl) (by kernel_rfl) (by kernel_rfl) (fun _ _ _ h => h) (Or.inr ⟨by rfl, rfl⟩) hHeld ?_
                    try simp only [Act.put, List.getElem_toArray, List.getElem_cons_zero, List.getElem_cons_succ, List.setIfInBounds_toArray, List.set_cons_zero, List.set_cons_succ]
                    refine wpAnyH_take (i := 19) (v := undef) rfl (by kernel_rfl) (by kernel_rfl) (by kernel_rfl) (fun _ _ _ h => h) (Or.inr ⟨by rfl, rfl⟩) hHeld ?_
                    try simp only [Act.put, List.getElem_toArray, List.getElem_cons_zero, List.getElem_cons_succ, List.setIfInBounds_toArray, List.set_cons_zero, List.set_cons_succ]
                    refine wpAnyH_take (i := 20) (v := undef) rfl (by kernel_rfl) (by kernel_rfl) (by kernel_rfl) (fun _ _ _ h => h) (Or.inr ⟨by rfl, rfl⟩) hHeld ?_
                    try simp only [Act.put, List.getElem_toArray, List.getElem_cons_zero, List.getElem_cons_succ, List.setIfInBounds_toArray, List.set_cons_zero, List.set_cons_succ]
                    refine wpAnyH_take (i := 21) (v := undef) rfl (by kernel_rfl) (by kernel_rfl) (by kernel_rfl) (fun _ _ _ h => h) (Or.inr ⟨by rfl, rfl⟩) hHeld ?_
                    try simp only [Act.put, List.getElem_toArray, List.getElem_cons_zero, List.getElem_cons_succ, List.setIfInBounds_toArray, List.set_cons_zero, List.set_cons_succ]
                    refine wpAnyH_take (i := 22) rfl (by kernel_rfl) (by kernel_rfl) (by kernel_rfl) (fun _ _ _ h => h) (Or.inl ⟨by rfl, fun X hSw => by ((try dsimp only at hSw); go_simp; try with_reducible rfl)⟩) hHeld ?_
                    try simp only [Act.put, List.getElem_toArray, List.getElem_cons_zero, List.getElem_cons_succ, List.setIfInBounds_toArray, List.set_cons_zero, List.set_cons_succ]
                    refine wpAnyH_done (by kernel_rfl) ?_ _
                    refine NoPanic.normal ?_
                    have hb2 : Below v3.heap.size v3 wr.drew := below_on hbel bdr
                    go_wp2_with (fail)
                    go_roundw
                    case rel => exact ⟨k + 1, by omega, by go_num, ⟨NH, rfl, hst'⟩, hb2⟩
                    case measure => simp [intOf]; omega
                · have t1' : (0 < x.t) = False := by simp [t1]
                  have t1'' : decide (0 < x.t) = false := by simp [t1]
                  clear hhit t1
                  go_wp2_with (fail)
                  refine wp_region_noPanic ?_
                  refine wp_region_held_drew (S := fun w' => w'.cell? ⟨Bx, 0, none⟩ = some (.string x.s) ∧ w'.cell? ⟨Bx, 1, none⟩ = some (.int .i64 x.t) ∧ w'.cell? ⟨g, o + k * 4, none⟩ = some (.string x1.s) ∧ w'.cell? ⟨g, o + k * 4 + 1, none⟩ = some (.int .i64 x1.t)) (by kernel_rfl) (HKR _ (by repeat (with_reducible (first | exact Below.refl _ _ | refine below_drewL ?_)))) (fun hHeld => ?_)
                  refine wpAnyH_take (i := 0) rfl (by kernel_rfl) (by kernel_rfl) (by kernel_rfl) (fun _ _ _ h => h) (Or.inl ⟨by rfl, fun X hSw => by ((try dsimp only at hSw); go_simp; try with_reducible rfl)⟩) hHeld ?_
                  try simp only [Act.put, List.getElem_toArray, List.getElem_cons_zero, List.setIfInBounds_toArray, List.set_cons_zero, List.set_cons_succ]
                  refine wpAnyH_take (i := 1) rfl (by kernel_rfl) (by kernel_rfl) (by kernel_rfl) (fun _ _ _ h => h) (Or.inl ⟨by rfl, fun X hSw => by ((try dsimp only at hSw); go_simp; try with_reducible rfl)⟩) hHeld ?_
                  try simp only [Act.put, List.getElem_toArray, List.getElem_cons_zero, List.getElem_cons_succ, List.setIfInBounds_toArray, List.set_cons_zero, List.set_cons_succ]
                  refine wpAnyH_take (i := 2) rfl (by kernel_rfl) (by kernel_rfl) (by kernel_rfl) (fun _ _ _ h => h) (Or.inl ⟨by rfl, fun X hSw => by ((try dsimp only at hSw); go_simp; try with_reducible rfl)⟩) hHeld ?_
                  try simp only [Act.put, List.getElem_toArray, List.getElem_cons_zero, List.getElem_cons_succ, List.setIfInBounds_toArray, List.set_cons_zero, List.set_cons_succ]
                  refine wpAnyH_take (i := 3) rfl (by kernel_rfl) (by kernel_rfl) (by kernel_rfl) (fun _ _ _ h => h) (Or.inl ⟨by rfl, fun X hSw => by ((try dsimp only at hSw); go_simp; try with_reducible rfl)⟩) hHeld ?_
                  try simp only [Act.put, List.getElem_toArray, List.getElem_cons_zero, List.getElem_cons_succ, List.setIfInBounds_toArray, List.set_cons_zero, List.set_cons_succ]
                  refine wpAnyH_take (i := 4) (v := undef) rfl (by kernel_rfl) (by kernel_rfl) (by kernel_rfl) (fun _ _ _ h => h) (Or.inr ⟨by rfl, rfl⟩) hHeld ?_
                  try simp only [Act.put, List.getElem_toArray, List.getElem_cons_zero, List.getElem_cons_succ, List.setIfInBounds_toArray, List.set_cons_zero, List.set_cons_succ]
                  refine wpAnyH_take (i := 5) (v := undef) rfl (by kernel_rfl) (by kernel_rfl) (by kernel_rfl) (fun _ _ _ h => h) (Or.inr ⟨by rfl, rfl⟩) hHeld ?_
                  try simp only [Act.put, List.getElem_toArray, List.getElem_cons_zero, List.getElem_cons_succ, List.setIfInBounds_toArray, List.set_cons_zero, List.set_cons_succ]
                  refine wpAnyH_take (i := 6) (v := undef) rfl (by kernel_rfl) (by kernel_rfl) (by kernel_rfl) (fun _ _ _ h => h) (Or.inr ⟨by rfl, rfl⟩) hHeld ?_
                  try simp only [Act.put, List.getElem_toArray, List.getElem_cons_zero, List.getElem_cons_succ, List.setIfInBounds_toArray, List.set_cons_zero, List.set_cons_succ]
                  refine wpAnyH_take (i := 7) (v := undef) rfl (by kernel_rfl) (by kernel_rfl) (by kernel_rfl) (fun _ _ _ h => h) (Or.inr ⟨by rfl, rfl⟩) hHeld ?_
                  try simp only [Act.put, List.getElem_toArray, List.getElem_cons_zero, List.getElem_cons_succ, List.setIfInBounds_toArray, List.set_cons_zero, List.set_cons_succ]
                  refine wpAnyH_take (i := 8) (v := undef) rfl (by kernel_rfl) (by kernel_rfl) (by kernel_rfl) (fun _ _ _ h => h) (Or.inr ⟨by rfl, rfl⟩) hHeld ?_
                  try simp only [Act.put, List.getElem_toArray, List.getElem_cons_zero, List.getElem_cons_succ, List.setIfInBounds_toArray, List.set_cons_zero, List.set_cons_succ]
                  refine wpAnyH_take (i := 9) (v := undef) rfl (by kernel_rfl) (by kernel_rfl) (by kernel_rfl) (fun _ _ _ h => h) (Or.inr ⟨by rfl, rfl⟩) hHeld ?_
                  try simp only [Act.put, List.getElem_toArray, List.getElem_cons_zero, List.getElem_cons_succ, List.setIfInBounds_toArray, List.set_cons_zero, List.set_cons_succ]
                  refine wpAnyH_take (i := 10) (v := undef) rfl (by kernel_rfl) (by kernel_rfl) (by kernel_rfl) (fun _ _ _ h => h) (Or.inr ⟨by rfl, rfl⟩) hHeld ?_
                  try simp only [Act.put, List.getElem_toArray, List.getElem_cons_zero, List.getElem_cons_succ, List.setIfInBounds_toArray, List.set_cons_zero, List.set_cons_succ]
                  refine wpAnyH_take (i := 11) (v := undef) rfl (by kernel_rfl) (by kernel_rfl) (by kernel_rfl) (fun _ _ _ h => h) (Or.inr ⟨by rfl, rfl⟩) hHeld ?_
                  try simp only [Act.put, List.getElem_toArray, List.getElem_cons_zero, List.getElem_cons_succ, List.setIfInBounds_toArray, List.set_cons_zero, List.set_cons_succ]
                  refine wpAnyH_take (i := 12) rfl (by kernel_rfl) (by kernel_rfl) (by kernel_rfl) (fun _ _ _ h => h) (Or.inl ⟨by rfl, fun X hSw => by ((try dsimp only at hSw); go_simp; try with_reducible rfl)⟩) hHeld ?_
                  try simp only [Act.put, List.getElem_toArray, List.getElem_cons_zero, List.getElem_cons_succ, List.setIfInBounds_toArray, List.set_cons_zero, List.set_cons_succ]
                  refine wpAnyH_take (i := 13) rfl (by kernel_rfl) (by kernel_rfl) (by kernel_rfl) (fun _ _ _ h => h) (Or.inl ⟨by rfl, fun X hSw => by ((try dsimp only at hSw); go_simp; try with_reducible rfl)⟩) hHeld ?_
                  try simp only [Act.put, List.getElem_toArray, List.getElem_cons_zero, List.getElem_cons_succ, List.setIfInBounds_toArray, List.set_cons_zero, List.set_cons_succ]
                  refine wpAnyH_take (i := 14) (v := undef) rfl (by kernel_rfl) (by kernel_rfl) (by kernel_rfl) (fun _ _ _ h => h) (Or.inr ⟨by rfl, rfl⟩) hHeld ?_
                  try simp only [Act.put, List.getElem_toArray, List.getElem_cons_zero, List.getElem_cons_succ, List.setIfInBounds_toArray, List.set_cons_zero, List.set_cons_succ]
                  refine wpAnyH_take (i := 15) (v := undef) rfl (by kernel_rfl) (by kernel_rfl) (by kernel_rfl) (fun _ _ _ h => h) (Or.inr ⟨by rfl, rfl⟩) hHeld ?_
                  try simp only [Act.put, List.getElem_toArray, List.getElem_cons_zero, List.getElem_cons_succ, List.setIfInBounds_toArray, List.set_cons_zero, List.set_cons_succ]
                  refine wpAnyH_take (i := 16) (v := undef) rfl (by kernel_rfl) (by kernel_rfl) (by kernel_rfl) (fun _ _ _ h => h) (Or.inr ⟨by rfl, rfl⟩) hHeld ?_
                  try simp only [Act.put, List.getElem_toArray, List.getElem_cons_zero, List.getElem_cons_succ, List.setIfInBounds_toArray, List.set_cons_zero, List.set_cons_succ]
                  refine wpAnyH_take (i := 17) (v := undef) rfl (by kernel_rfl) (by kernel_rfl) (by kernel_rfl) (fun _ _ _ h => h) (Or.inr ⟨by rfl, rfl⟩) hHeld ?_
                  try simp only [Act.put, List.getElem_toArray, List.getElem_cons_zero, List.getElem_cons_succ, List.setIfInBounds_toArray, List.set_cons_zero, List.set_cons_succ]
                  refine wpAnyH_take (i := 18) (v := undef) rfl (by kernel_rfl) (by kernel_rfl) (by kernel_rfl) (fun _ _ _ h => h) (Or.inr ⟨by rfl, rfl⟩) hHeld ?_
                  try simp only [Act.put, List.getElem_toArray, List.getElem_cons_zero, List.getElem_cons_succ, List.setIfInBounds_toArray, List.set_cons_zero, List.set_cons_succ]
                  refine wpAnyH_take (i := 19) (v := undef) rfl (by kernel_rfl) (by kernel_rfl) (by kernel_rfl) (fun _ _ _ h => h) (Or.inr ⟨by rfl, rfl⟩) hHeld ?_
                  try simp only [Act.put, List.getElem_toArray, List.getElem_cons_zero, List.getElem_cons_succ, List.setIfInBounds_toArray, List.set_cons_zero, List.set_cons_succ]
                  refine wpAnyH_take (i := 20) (v := undef) rfl (by kernel_rfl) (by kernel_rfl) (by kernel_rfl) (fun _ _ _ h => h) (Or.inr ⟨by rfl, rfl⟩) hHeld ?_
                  try simp only [Act.put, List.getElem_toArray, List.getElem_cons_zero, List.getElem_cons_succ, List.setIfInBounds_toArray, List.set_cons_zero, List.set_cons_succ]
                  refine wpAnyH_take (i := 21) (v := undef) rfl (by kernel_rfl) (by kernel_rfl) (by kernel_rfl) (fun _ _ _ h => h) (Or.inr ⟨by rfl, rfl⟩) hHeld ?_
                  try simp only [Act.put, List.getElem_toArray, List.getElem_cons_zero, List.getElem_cons_succ, List.setIfInBounds_toArray, List.set_cons_zero, List.set_cons_succ]
                  refine wpAnyH_take (i := 22) rfl (by kernel_rfl) (by kernel_rfl) (by kernel_rfl) (fun _ _ _ h => h) (Or.inl ⟨by rfl, fun X hSw => by ((try dsimp only at hSw); go_simp; try with_reducible rfl)⟩) hHeld ?_
                  try simp only [Act.put, List.getElem_toArray, List.getElem_cons_zero, List.getElem_cons_succ, List.setIfInBounds_toArray, List.set_cons_zero, List.set_cons_succ]
                  refine wpAnyH_done (by kernel_rfl) ?_ _
                  refine NoPanic.normal ?_
                  have hb2 : Below v3.heap.size v3 wr.drew := below_on hbel bdr
                  go_wp2_with (fail)
                  go_roundw
                  case rel => exact ⟨k + 1, by omega, by go_num, ⟨NH, rfl, hst'⟩, hb2⟩
                  case measure => simp [intOf]; omega
            · have hkn : k = nA := by omega
              subst hkn
              rw [show ia.take k = ia by rw [← hal, List.take_length]] at hNH
              obtain ⟨m, hm⟩ : ∃ m, m = k - 1 := ⟨_, rfl⟩
              have hsub : (k : Int) - 1 = (m : Int) := by omega
              have hm1 : m < k := by omega
              have hm0 : (0 : Int) ≤ (m : Int) := by omega
              have hm2 : (m : Int) < (k : Int) := by omega
              rw [← hm] at hh3
              clear hm
              have hwm : IntKind.i64.wrap (m : Int) = (m : Int) := by rw [IntKind.wrap_i64]; omega
              have hws : IntKind.i64.wrap ((k : Int) - 1) = (m : Int) := by rw [hsub]; exact hwm
              obtain ⟨g, o, rfl, hcs⟩ := itemsIn_on ra.items hbel (by omega)
              obtain ⟨x1, hx1⟩ : ∃ x1, ia.getD m default = x1 := ⟨_, rfl⟩
              obtain ⟨l0, l1, l2, l3⟩ := ItemsIn.at hcs hm1 hx1
              have hx1m : x1 ∈ ia := hx1 ▸ getD_mem (by omega)
              rw [hx1] at hh3
              obtain ⟨y1, y2, y3⟩ := (sa.lies ra x1 hx1m).on hbel
              have oxb : Own 5 wr _ _ (.slice x.p x.n x.c) x.n x.xs := ox.on hbel
              have hc4 := hh3.out
              simp only [ItA.con, Prod.mk.injEq] at hc4
              obtain ⟨c1, c2, c3, c4⟩ := hc4
              have hn1 : x1.n = x.n := by rw [← y2, c4]; exact oxb.len
              have CSI : ∀ X, BytesIn X x1.p x1.n x1.xs → BytesIn X x.p x.n x.xs → Calls Try.prog 19 #[.agg #[.string x1.s, .int .i64 x1.t, .int .i64 x1.d, .slice x1.p x1.n x1.c], .agg #[.string x.s, .int .i64 x.t, .int .i64 x.d, .slice x.p x.n x.c]] X fun e w' => e = .returned (.bool true) ∧ Below X.heap.size X w' := by
                intro X g1 g2
                rw [c1, c2, c3, hn1]
                rw [hn1, c4] at g1
                exact sameItem_yes x.s x.t x.d x1.p x.p x.n x1.c x.c x.xs X oxb.len g1 g2
              have HKF : ∀ w', Below wr.heap.size wr w' → w'.cell? ⟨Bx, 0, none⟩ = some (.string x.s) ∧ w'.cell? ⟨Bx, 1, none⟩ = some (.int .i64 x.t) ∧ w'.cell? ⟨Bx, 2, none⟩ = some (.int .i64 x.d) ∧ w'.cell? ⟨Bx, 3, none⟩ = some (.slice x.p x.n x.c) ∧ w'.cell? ⟨g, o + m * 4, none⟩ = some (.string x1.s) ∧ w'.cell? ⟨g, o + m * 4 + 1, none⟩ = some (.int .i64 x1.t) ∧ w'.cell? ⟨g, o + m * 4 + 2, none⟩ = some (.int .i64 x1.d) ∧ w'.cell? ⟨g, o + m * 4 + 3, none⟩ = some (.slice x1.p x1.n x1.c) := fun w' hX => ⟨((Cw.on hX).2 0).1, ((Cw.on hX).2 1).1, ((Cw.on hX).2 2).1, ((Cw.on hX).2 3).1, (hX.cell (World.block_lt_of_cell? wr _ l0)).trans l0, (hX.cell (World.block_lt_of_cell? wr _ l1)).trans l1, (hX.cell (World.block_lt_of_cell? wr _ l2)).trans l2, (hX.cell (World.block_lt_of_cell? wr _ l3)).trans l3⟩
              have bdr : Below wr.heap.size wr wr.drew := (Below.refl _ _).drew
              have kE := below_on kV3 hbel
              have rai := itemsIn_on ra.items hbel
              clear hcs hh3 hx1 c1 c2 c3 c4 lx0 lx1 l0 l1 l2 l3 hn1 y1 y2 hx1m
              by_cases ht0 : x.t = 0
              · have ht1 : (x.t == 0) = true := by simp [ht0]
                clear hh1 hNH ht0
                go_wp2_with (fail)
                refine wp_region_noPanic ?_
                refine wp_region_held_drew (S := fun w' => w'.cell? ⟨Bx, 0, none⟩ = some (.string x.s) ∧ w'.cell? ⟨Bx, 1, none⟩ = some (.int .i64 x.t) ∧ w'.cell? ⟨Bx, 2, none⟩ = some (.int .i64 x.d) ∧ w'.cell? ⟨Bx, 3, none⟩ = some (.slice x.p x.n x.c) ∧ w'.cell? ⟨g, o + m * 4, none⟩ = some (.string x1.s) ∧ w'.cell? ⟨g, o + m * 4 + 1, none⟩ = some (.int .i64 x1.t) ∧ w'.cell? ⟨g, o + m * 4 + 2, none⟩ = some (.int .i64 x1.d) ∧ w'.cell? ⟨g, o + m * 4 + 3, none⟩ = some (.slice x1.p x1.n x1.c)) (by kernel_rfl) (HKF _ (by repeat (with_reducible (first | exact Below.refl _ _ | refine below_drewL ?_ | refine below_on ?_ bq2 | refine below_on ?_ bq1)))) (fun hHeld => ?_)
                refine wpAnyH_take (i := 0) rfl (by kernel_rfl) (by kernel_rfl) (by kernel_rfl) (fun _ _ _ h => h) (Or.inl ⟨by rfl, fun X hSw => by ((try dsimp only at hSw); go_simp; try with_reducible rfl)⟩) hHeld ?_
                try simp only [Act.put, List.getElem_toArray, List.getElem_cons_zero, List.setIfInBounds_toArray, List.set_cons_zero, List.set_cons_succ]
                refine wpAnyH_ready (rs := [1]) (by kernel_rfl) (by simp) ?_
                refine AllReadyH.cons rfl (fun K hK => ?_) AllReadyH.nil
                go_simp
                refine (CQA _ (itemsIn_on rai bdr)).mono ?_
                rintro z wq1 ⟨rfl, bq1⟩
                go_wp2_with (fail)
                refine hK.out _ _ (HKF _ (by repeat (with_reducible (first | exact Below.refl _ _ | refine below_drewL ?_ | refine below_on ?_ bq2 | refine below_on ?_ bq1)))) (fun hHeld => ?_)
                clear hK K
                try simp only [Act.put, List.getElem_toArray, List.getElem_cons_zero, List.getElem_cons_succ, List.setIfInBounds_toArray, List.set_cons_zero, List.set_cons_succ]
                refine wpAnyH_take (i := 2) rfl (by kernel_rfl) (by kernel_rfl) (by kernel_rfl) (fun _ _ _ h => h) (Or.inl ⟨by rfl, fun X hSw => by ((try dsimp only at hSw); go_simp; try with_reducible rfl)⟩) hHeld ?_
                try simp only [Act.put, List.getElem_toArray, List.getElem_cons_zero, List.getElem_cons_succ, List.setIfInBounds_toArray, List.set_cons_zero, List.set_cons_succ]
                refine wpAnyH_take (i := 3) rfl (by kernel_rfl) (by kernel_rfl) (by kernel_rfl) (fun _ _ _ h => h) (Or.inl ⟨by rfl, fun X hSw => by ((try dsimp only at hSw); go_simp; try with_reducible rfl)⟩) hHeld ?_
                try simp only [Act.put, List.getElem_toArray, List.getElem_cons_zero, List.getElem_cons_succ, List.setIfInBounds_toArray, List.set_cons_zero, List.set_cons_succ]
                refine wpAnyH_take (i := 4) rfl (by kernel_rfl) (by kernel_rfl) (by kernel_rfl) (fun _ _ _ h => h) (Or.inl ⟨by rfl, fun X hSw => by ((try dsimp only at hSw); go_simp; try with_reducible rfl)⟩) hHeld ?_
                try simp only [Act.put, List.getElem_toArray, List.getElem_cons_zero, List.getElem_cons_succ, List.setIfInBounds_toArray, List.set_cons_zero, List.set_cons_succ]
                refine wpAnyH_take (i := 5) rfl (by kernel_rfl) (by kernel_rfl) (by kernel_rfl) (fun _ _ _ h => h) (Or.inl ⟨by rfl, fun X hSw => by ((try dsimp only at hSw); go_simp; try with_reducible rfl)⟩) hHeld ?_
                try simp only [Act.put, List.getElem_toArray, List.getElem_cons_zero, List.getElem_cons_succ, List.setIfInBounds_toArray, List.set_cons_zero, List.set_cons_succ]
                refine wpAnyH_take (i := 6) rfl (by kernel_rfl) (by kernel_rfl) (by kernel_rfl) (fun _ _ _ h => h) (Or.inl ⟨by rfl, fun X hSw => by ((try dsimp only at hSw); go_simp; try with_reducible rfl)⟩) hHeld ?_
                try simp only [Act.put, List.getElem_toArray, List.getElem_cons_zero, List.getElem_cons_succ, List.setIfInBounds_toArray, List.set_cons_zero, List.set_cons_succ]
                refine wpAnyH_take (i := 7) rfl (by kernel_rfl) (by kernel_rfl) (by kernel_rfl) (fun _ _ _ h => h) (Or.inl ⟨by rfl, fun X hSw => by ((try dsimp only at hSw); go_simp; try with_reducible rfl)⟩) hHeld ?_
                try simp only [Act.put, List.getElem_toArray, List.getElem_cons_zero, List.getElem_cons_succ, List.setIfInBounds_toArray, List.set_cons_zero, List.set_cons_succ]
                refine wpAnyH_take (i := 8) rfl (by kernel_rfl) (by kernel_rfl) (by kernel_rfl) (fun _ _ _ h => h) (Or.inl ⟨by rfl, fun X hSw => by ((try dsimp only at hSw); go_simp; try with_reducible rfl)⟩) hHeld ?_
                try simp only [Act.put, List.getElem_toArray, List.getElem_cons_zero, List.getElem_cons_succ, List.setIfInBounds_toArray, List.set_cons_zero, List.set_cons_succ]
                refine wpAnyH_take (i := 9) rfl (by kernel_rfl) (by kernel_rfl) (by kernel_rfl) (fun _ _ _ h => h) (Or.inl ⟨by rfl, fun X hSw => by ((try dsimp only at hSw); go_simp; try with_reducible rfl)⟩) hHeld ?_
                try simp only [Act.put, List.getElem_toArray, List.getElem_cons_zero, List.getElem_cons_succ, List.setIfInBounds_toArray, List.set_cons_zero, List.set_cons_succ]
                refine wpAnyH_ready (rs := [10]) (by kernel_rfl) (by simp) ?_
                refine AllReadyH.cons rfl (fun K hK => ?_) AllReadyH.nil
                go_simp
                refine (CSI _ (in_below y3 (below_on bdr bq1)) (in_below oxb.bytes (below_on bdr bq1))).mono ?_
                rintro z wq2 ⟨rfl, bq2⟩
                go_wp2_with (fail)
                refine hK.out _ _ (HKF _ (by repeat (with_reducible (first | exact Below.refl _ _ | refine below_drewL ?_ | refine below_on ?_ bq2 | refine below_on ?_ bq1)))) (fun hHeld => ?_)
                clear hK K
                try simp only [Act.put, List.getElem_toArray, List.getElem_cons_zero, List.getElem_cons_succ, List.setIfInBounds_toArray, List.set_cons_zero, List.set_cons_succ]
                refine wpAnyH_take (i := 11) rfl (by kernel_rfl) (by kernel_rfl) (by kernel_rfl) (fun _ _ _ h => h) (Or.inl ⟨by rfl, fun X hSw => by ((try dsimp only at hSw); go_simp; try with_reducible rfl)⟩) hHeld ?_
                try simp only [Act.put, List.getElem_toArray, List.getElem_cons_zero, List.getElem_cons_succ, List.setIfInBounds_toArray, List.set_cons_zero, List.set_cons_succ]
                refine wpAnyH_take (i := 12) rfl (by kernel_rfl) (by kernel_rfl) (by kernel_rfl) (fun _ _ _ h => h) (Or.inl ⟨by rfl, fun X hSw => by ((try dsimp only at hSw); go_simp; try with_reducible rfl)⟩) hHeld ?_
                try simp only [Act.put, List.getElem_toArray, List.getElem_cons_zero, List.getElem_cons_succ, List.setIfInBounds_toArray, List.set_cons_zero, List.set_cons_succ]
                refine wpAnyH_take (i := 13) rfl (by kernel_rfl) (by kernel_rfl) (by kernel_rfl) (fun _ _ _ h => h) (Or.inl ⟨by rfl, fun X hSw => by ((try dsimp only at hSw); go_simp; try with_reducible rfl)⟩) hHeld ?_
                try simp only [Act.put, List.getElem_toArray, List.getElem_cons_zero, List.getElem_cons_succ, List.setIfInBounds_toArray, List.set_cons_zero, List.set_cons_succ]
                refine wpAnyH_take (i := 14) rfl (by kernel_rfl) (by kernel_rfl) (by kernel_rfl) (fun _ _ _ h => h) (Or.inl ⟨by rfl, fun X hSw => by ((try dsimp only at hSw); go_simp; try with_reducible rfl)⟩) hHeld ?_
                try simp only [Act.put, List.getElem_toArray, List.getElem_cons_zero, List.getElem_cons_succ, List.setIfInBounds_toArray, List.set_cons_zero, List.set_cons_succ]
                refine wpAnyH_take (i := 15) rfl (by kernel_rfl) (by kernel_rfl) (by kernel_rfl) (fun _ _ _ h => h) (Or.inl ⟨by rfl, fun X hSw => by ((try dsimp only at hSw); go_simp; try with_reducible rfl)⟩) hHeld ?_
                try simp only [Act.put, List.getElem_toArray, List.getElem_cons_zero, List.getElem_cons_succ, List.setIfInBounds_toArray, List.set_cons_zero, List.set_cons_succ]
                refine wpAnyH_take (i := 16) rfl (by kernel_rfl) (by kernel_rfl) (by kernel_rfl) (fun _ _ _ h => h) (Or.inl ⟨by rfl, fun X hSw => by ((try dsimp only at hSw); go_simp; try with_reducible rfl)⟩) hHeld ?_
                try simp only [Act.put, List.getElem_toArray, List.getElem_cons_zero, List.getElem_cons_succ, List.setIfInBounds_toArray, List.set_cons_zero, List.set_cons_succ]
                refine wpAnyH_take (i := 17) (v := undef) rfl (by kernel_rfl) (by kernel_rfl) (by kernel_rfl) (fun _ _ _ h => h) (Or.inr ⟨by rfl, rfl⟩) hHeld ?_
                try simp only [Act.put, List.getElem_toArray, List.getElem_cons_zero, List.getElem_cons_succ, List.setIfInBounds_toArray, List.set_cons_zero, List.set_cons_succ]
                refine wpAnyH_take (i := 18) (v := undef) rfl (by kernel_rfl) (by kernel_rfl) (by kernel_rfl) (fun _ _ _ h => h) (Or.inr ⟨by rfl, rfl⟩) hHeld ?_
                try simp only [Act.put, List.getElem_toArray, List.getElem_cons_zero, List.getElem_cons_succ, List.setIfInBounds_toArray, List.set_cons_zero, List.set_cons_succ]
                refine wpAnyH_take (i := 19) rfl (by kernel_rfl) (by kernel_rfl) (by kernel_rfl) (fun _ _ _ h => h) (Or.inl ⟨by rfl, fun X hSw => by ((try dsimp only at hSw); go_simp; try with_reducible rfl)⟩) hHeld ?_
                try simp only [Act.put, List.getElem_toArray, List.getElem_cons_zero, List.getElem_cons_succ, List.setIfInBounds_toArray, List.set_cons_zero, List.set_cons_succ]
                refine wpAnyH_take (i := 20) rfl (by kernel_rfl) (by kernel_rfl) (by kernel_rfl) (fun _ _ _ h => h) (Or.inl ⟨by rfl, fun X hSw => by ((try dsimp only at hSw); go_simp; try with_reducible rfl)⟩) hHeld ?_
                try simp only [Act.put, List.getElem_toArray, List.getElem_cons_zero, List.getElem_cons_succ, List.setIfInBounds_toArray, List.set_cons_zero, List.set_cons_succ]
                refine wpAnyH_take (i := 21) rfl (by kernel_rfl) (by kernel_rfl) (by kernel_rfl) (fun _ _ _ h => h) (Or.inl ⟨by rfl, fun X hSw => by ((try dsimp only at hSw); go_simp; try with_reducible rfl)⟩) hHeld ?_
                try simp only [Act.put, List.getElem_toArray, List.getElem_cons_zero, List.getElem_cons_succ, List.setIfInBounds_toArray, List.set_cons_zero, List.set_cons_succ]
                refine wpAnyH_done (by kernel_rfl) ?_ _
                refine NoPanic.normal ?_
                go_wp2_with (fail)
                go_ret
                exact ⟨rfl, below_on (below_on (below_on kE bdr) bq1) bq2⟩
              · have ht1 : (x.t == 0) = false := by simp [ht0]
                have hone : NH = 1 := by rw [hNH.out]; exact hh1.out (by omega)
                subst hone
                clear hh1 hNH ht0
                go_wp2_with (fail)
                go_region_held3 (fun w' => w'.cell? ⟨Bx, 0, none⟩ = some (.string x.s) ∧ w'.cell? ⟨Bx, 1, none⟩ = some (.int .i64 x.t) ∧ w'.cell? ⟨Bx, 2, none⟩ = some (.int .i64 x.d) ∧ w'.cell? ⟨Bx, 3, none⟩ = some (.slice x.p x.n x.c) ∧ w'.cell? ⟨g, o + m * 4, none⟩ = some (.string x1.s) ∧ w'.cell? ⟨g, o + m * 4 + 1, none⟩ = some (.int .i64 x1.t) ∧ w'.cell? ⟨g, o + m * 4 + 2, none⟩ = some (.int .i64 x1.d) ∧ w'.cell? ⟨g, o + m * 4 + 3, none⟩ = some (.slice x1.p x1.n x1.c)) (exact HKF _ (by repeat (with_reducible (first | exact Below.refl _ _ | refine below_drewL ?_ | refine below_on ?_ bq2 | refine below_on ?_ bq1)))) (first | (go_at_call 23; refine (CQA _ (itemsIn_on rai bdr)).mono ?_; rintro z1 wq1 ⟨rfl, bq1⟩) | (go_at_call 19; refine (CSI _ (in_below y3 (below_on bdr bq1)) (in_below oxb.bytes (below_on bdr bq1))).mono ?_; rintro z1 wq2 ⟨rfl, bq2⟩))
                all_goals
                  go_wp2_with (fail)
                  go_ret
                  exact ⟨rfl, below_on (below_on (below_on kE bdr) bq1) bq2⟩

theorem fnQueues_law (p : Option Addr) (n c : Nat) (xs : List Int) (w : World) (hx : xs.length = n) (h : BytesIn w p n xs) (hb : ∀ x ∈ xs, 0 ≤ x ∧ x < 256) :
    Calls Try.prog 3 #[.slice p n c] w fun e w' => e = .returned (.bool true) ∧ Below w.heap.size w w' := by
  by_cases hn : n ≤ 1048576
  · exact fnQueues_small p n c xs w hn hx h hb
  · clear hx h hb
    have C := fun X => big_great p n c X hn
    go_enter Try.func3, Try.ntmps3
    go_wp2_with (fail)
    refine (C _).mono ?_
    rintro e w1 ⟨rfl, b1⟩
    go_wp2
    go_ret
    exact ⟨rfl, b1⟩

end Go.Proofs.Ytkdbcplcpcdnbaa
