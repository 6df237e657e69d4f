/-
  FnExactReaderOk returns true for any reader, and writes nothing that was there; conditions: a reader that can be read.
-/
import Derived.Test.YtelfejgpphoifaaReaderCon
import Derived.Test.YtelfejgpphoifaaImplReaderOk
import Derived.Test.YtelfejgpphoifaaReaderEq
namespace Go.Proofs.Ytelfejgpphoifaa
open Go.RowKit
set_option maxRecDepth 100000

theorem below_drewR {w w' : World} (h : Below w.heap.size w w') : Below w.heap.size w w'.drew := h.drew

set_option maxHeartbeats 8000000 in
theorem readerOk_law (x : RdA) (w : World) (ok : x.Ok w) :
    Calls Try.prog 3 #[.agg x.cells] w fun e w' => e = .returned (.bool true) ∧ Below w.heap.size w w' := by
  have CS := fun X (b : Below w.heap.size w X) => szReader_any x X (ok.on b)
  have CT := fun X (b : Below w.heap.size w X) => toReader_any x X (ok.on b)
  have con : Hid (∀ {X Y : World} {y : RdA}, y.Ok X → Hid (y.con = x.con) → rB y = rC x.con) := fun h e => (rB_con h).trans (by rw [e.out])
  have hxc := x.con
  obtain ⟨⟨sp, sn, sc, sx⟩, e, p, n, c, seen, q, m, d, got⟩ := x
  have E : RdA.cells ⟨⟨sp, sn, sc, sx⟩, e, p, n, c, seen, q, m, d, got⟩ = #[.slice sp sn sc, .int .i64 e, .slice p n c, .slice q m d] := rfl
  rw [E] at CS CT ⊢
  clear E ok
  have b0 : ∀ o, Below w.heap.size w (w.alloc o) := fun o => (Below.refl _ _).alloc (Nat.le_refl _) o
  obtain ⟨XC, hXC⟩ : ∃ XC, XC = RdA.con ⟨⟨sp, sn, sc, sx⟩, e, p, n, c, seen, q, m, d, got⟩ := ⟨_, rfl⟩
  rw [← hXC] at con CT
  obtain ⟨FIT, hFIT⟩ : ∃ FIT, FIT = RdA.Fit ⟨⟨sp, sn, sc, sx⟩, e, p, n, c, seen, q, m, d, got⟩ := ⟨_, rfl⟩
  rw [← hFIT] at CS CT
  clear hXC hFIT
  go_enter Try.func3, Try.ntmps3
  go_wp2_with (fail)
  refine (CS _ (b0 _)).mono ?_
  rintro z w1 ⟨r, rfl, hr, b1⟩
  have C1 := (Cells.made w _ _).on b1
  have k1 := below_on (b0 _) b1
  obtain ⟨B0, hB0⟩ : ∃ B0, w.heap.size = B0 := ⟨_, rfl⟩
  clear b1 CS
  rcases hr with rfl | ⟨hr1, hr2, fit⟩
  · go_wp2_with (fail)
    go_ret
    exact ⟨rfl, k1⟩
  · have hr3 : ¬ r < 0 := by omega
    have c0 : w1.cell? ⟨w.heap.size, 0, none⟩ = some (.slice sp sn sc) := (C1.2 0).1
    have c1 : w1.cell? ⟨w.heap.size, 1, none⟩ = some (.int .i64 e) := (C1.2 1).1
    have c2 : w1.cell? ⟨w.heap.size, 2, none⟩ = some (.slice p n c) := (C1.2 2).1
    have c3 : w1.cell? ⟨w.heap.size, 3, none⟩ = some (.slice q m d) := (C1.2 3).1
    clear hB0
    go_wp2_with (fail)
    refine (CT _ k1 fit).mono ?_
    rintro z w2 ⟨y, rfl, oky, ey, b2, _⟩
    have C2 := C1.on b2
    have k2 := below_on k1 b2
    have hry := con.out (X := w2) (Y := w2) oky ey
    clear b2 c0 c1 c2 c3 C1
    go_wp2_with (fail)
    refine (specReaderOk_any y _ oky).mono ?_
    rintro z w3 ⟨rfl, b3⟩
    have C3 := C2.on b3
    have k3 := below_on k2 b3
    rw [hry]
    obtain ⟨R, hR⟩ : ∃ R, rC XC = R := ⟨_, rfl⟩
    rw [hR] at con ⊢
    have c0 : w3.cell? ⟨w.heap.size, 0, none⟩ = some (.slice sp sn sc) := (C3.2 0).1
    have c1 : w3.cell? ⟨w.heap.size, 1, none⟩ = some (.int .i64 e) := (C3.2 1).1
    have c2 : w3.cell? ⟨w.heap.size, 2, none⟩ = some (.slice p n c) := (C3.2 2).1
    have c3 : w3.cell? ⟨w.heap.size, 3, none⟩ = some (.slice q m d) := (C3.2 3).1
    clear b3 C2 hR oky ey hry
    go_wp2_with (fail)
    refine (CT _ k3 fit).mono ?_
    rintro z w4 ⟨y, rfl, oky, ey, b4, hyc⟩
    have C4 := C3.on b4
    have k4 := below_on k3 b4
    have hry := con.out (X := w4) (Y := w4) oky ey
    clear b4 c0 c1 c2 c3 C3
    obtain ⟨⟨sp2, sn2, sc2, sx2⟩, e2, p2, n2, cc2, seen2, q2, m2, d2, got2⟩ := y
    have E : RdA.cells ⟨⟨sp2, sn2, sc2, sx2⟩, e2, p2, n2, cc2, seen2, q2, m2, d2, got2⟩ = #[.slice sp2 sn2 sc2, .int .i64 e2, .slice p2 n2 cc2, .slice q2 m2 d2] := rfl
    rw [E]
    obtain ⟨w5, hw5⟩ : ∃ X, X = w4.alloc (.cells #[.slice sp2 sn2 sc2, .int .i64 e2, .slice p2 n2 cc2, .slice q2 m2 d2] 28) := ⟨_, rfl⟩
    have b5 : Below w4.heap.size w4 w5 := by rw [hw5]; exact made_below _ _ (Below.refl _ _)
    have CX : Cells w5 w4.heap.size #[.slice sp2 sn2 sc2, .int .i64 e2, .slice p2 n2 cc2, .slice q2 m2 d2] := by rw [hw5]; exact Cells.made _ _ _
    replace hw5 : Hid (w4.alloc (.cells #[.slice sp2 sn2 sc2, .int .i64 e2, .slice p2 n2 cc2, .slice q2 m2 d2] 28) = w5) := hw5.symm
    have C5 := C4.on b5
    have k5 := below_on k4 b5
    have ok5 := oky.on b5
    have CI := implReaderOk_any _ w5 ok5 hyc
    rw [E, hry] at CI
    have y0 : w5.cell? ⟨w4.heap.size, 0, none⟩ = some (.slice sp2 sn2 sc2) := (CX.2 0).1
    have y1 : w5.cell? ⟨w4.heap.size, 1, none⟩ = some (.int .i64 e2) := (CX.2 1).1
    have y2 : w5.cell? ⟨w4.heap.size, 2, none⟩ = some (.slice p2 n2 cc2) := (CX.2 2).1
    have y3 : w5.cell? ⟨w4.heap.size, 3, none⟩ = some (.slice q2 m2 d2) := (CX.2 3).1
    clear E C4 hry con hyc oky
    go_wp2_with (rw [hw5.out])
    obtain ⟨B1, hB1⟩ : ∃ B1, B1 = w4.heap.size := ⟨_, rfl⟩
    rw [← hB1] at CX y0 y1 y2 y3 ⊢
    clear hB1 hw5
    obtain ⟨B0, hB0⟩ : ∃ B0, w.heap.size = B0 := ⟨_, rfl⟩
    refine CI.mono ?_
    rintro z w6 ⟨rfl, b6⟩
    have C6 := C5.on b6
    have D6 := CX.on b6
    have k6 := below_on k5 b6
    have ok6 := ok5.on b6
    clear b6 b5 CX C5 k5 k4 k3 k2 k1 CI y0 y1 y2 y3 ok5
    have bdr : Below w6.heap.size w6 w6.drew := (Below.refl _ _).drew
    have kdr := below_on k6 bdr
    have HK : ∀ X, Below w6.heap.size w6 X → X.cell? ⟨w.heap.size, 0, none⟩ = some (.slice sp sn sc) ∧ X.cell? ⟨w.heap.size, 1, none⟩ = some (.int .i64 e) ∧ X.cell? ⟨w.heap.size, 2, none⟩ = some (.slice p n c) ∧ X.cell? ⟨w.heap.size, 3, none⟩ = some (.slice q m d) ∧ X.cell? ⟨B1, 0, none⟩ = some (.slice sp2 sn2 sc2) ∧ X.cell? ⟨B1, 1, none⟩ = some (.int .i64 e2) ∧ X.cell? ⟨B1, 2, none⟩ = some (.slice p2 n2 cc2) ∧ X.cell? ⟨B1, 3, none⟩ = some (.slice q2 m2 d2) := fun X hX => ⟨((C6.on hX).2 0).1, ((C6.on hX).2 1).1, ((C6.on hX).2 2).1, ((C6.on hX).2 3).1, ((D6.on hX).2 0).1, ((D6.on hX).2 1).1, ((D6.on hX).2 2).1, ((D6.on hX).2 3).1⟩
    have eqc : ∀ (y : RdA), Hid (y.con = XC) → decide ((RdA.con ⟨⟨sp2, sn2, sc2, sx2⟩, e2, p2, n2, cc2, seen2, q2, m2, d2, got2⟩) = y.con) = true := fun y h => decide_eq_true (ey.out.trans h.out.symm)
    clear hB0
    have CE := fun (y : RdA) X (b : Below w6.heap.size w6 X) (oky : y.Ok X) => eqReader_any ⟨⟨sp2, sn2, sc2, sx2⟩, e2, p2, n2, cc2, seen2, q2, m2, d2, got2⟩ y X (ok6.on b) oky
    have hne : (R != R) = false := by simp
    go_wp2_with (fail)
    go_region_held3 (fun X => X.cell? ⟨w.heap.size, 0, none⟩ = some (.slice sp sn sc) ∧ X.cell? ⟨w.heap.size, 1, none⟩ = some (.int .i64 e) ∧ X.cell? ⟨w.heap.size, 2, none⟩ = some (.slice p n c) ∧ X.cell? ⟨w.heap.size, 3, none⟩ = some (.slice q m d) ∧ X.cell? ⟨B1, 0, none⟩ = some (.slice sp2 sn2 sc2) ∧ X.cell? ⟨B1, 1, none⟩ = some (.int .i64 e2) ∧ X.cell? ⟨B1, 2, none⟩ = some (.slice p2 n2 cc2) ∧ X.cell? ⟨B1, 3, none⟩ = some (.slice q2 m2 d2)) (exact HK _ (by repeat (with_reducible (first | exact Below.refl _ _ | refine below_drewR ?_ | refine below_on ?_ bq1 | refine below_on ?_ bq2)))) (first | (go_at_call 8; refine (CT _ kdr fit).mono ?_; rintro z wq ⟨yq, rfl, okq, eq, bq1, _⟩) | (go_at_call 10; refine (CE _ _ (below_on bdr bq1) okq).mono ?_; rintro z w7 ⟨rfl, bq2⟩; rw [eqc _ eq]))
    have b7 : Below w6.heap.size w6 w7 := below_on (below_on bdr bq1) bq2
    have k7 := below_on k6 b7
    clear bq1 bq2 bdr kdr HK b7
    go_wp2_with (fail)
    go_ret
    exact ⟨rfl, k7⟩

end Go.Proofs.Ytelfejgpphoifaa
