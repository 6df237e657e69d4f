/-
  FnExactRead returns true for any reader and bytes, and writes nothing that was there; conditions: a reader and bytes that can be read.
-/
import Derived.Test.YtelfejgpphoifaaReaderCon
import Derived.Test.YtelfejgpphoifaaImplReaderOk
import Derived.Test.YtelfejgpphoifaaReaderEq
import Derived.Test.YtelfejgpphoifaaReaderOkLaw
namespace Go.Proofs.Ytelfejgpphoifaa
open Go.RowKit
set_option maxRecDepth 100000

set_option maxHeartbeats 8000000 in
theorem read_law (x : RdA) (b : RwA) (w : World) (ok : x.Ok w) (okb : b.Ok w) :
    Calls Try.prog 5 #[.agg x.cells, b.val] w fun e w' => e = .returned (.bool true) ∧ Below w.heap.size w w' := by
  have CS := fun X (b : Below w.heap.size w X) => szReader_any x X (ok.on b)
  have CT := fun X (b : Below w.heap.size w X) => toReader_any x X (ok.on b)
  have con : Hid (∀ (y : RdA), Hid (y.con = x.con) → amongB y.seen b.xs = amongB x.seen b.xs) := fun y e => by
    have e2 := congrArg (fun t => t.2.2.1) e.out
    have e3 : y.seen.map RwA.xs = x.seen.map RwA.xs := e2
    unfold amongB
    rw [e3]
  obtain ⟨bp, bn, bc, bx⟩ := b
  obtain ⟨R, hR⟩ : ∃ R, amongB x.seen bx = R := ⟨_, rfl⟩
  dsimp only at con
  rw [hR] at con
  clear hR
  have hbn := okb.hn
  have hbl := okb.len
  have hbb := okb.byte
  have hbi := okb.bytes
  dsimp only at hbn hbl hbb hbi
  clear okb
  rw [show RwA.val ⟨bp, bn, bc, bx⟩ = .slice bp bn bc from rfl]
  obtain ⟨⟨sp, sn, sc, sx⟩, e, p, n, c, seen, q, m, d, got⟩ := x
  have E : RdA.cells ⟨⟨sp, sn, sc, sx⟩, e, p, n, c, seen, q, m, d, got⟩ = #[.slice sp sn sc, .int .i64 e, .slice p n c, .slice q m d] := rfl
  rw [E] at CS CT ⊢
  clear E ok
  have b0 : ∀ o, Below w.heap.size w (w.alloc o) := fun o => (Below.refl _ _).alloc (Nat.le_refl _) o
  obtain ⟨XC, hXC⟩ : ∃ XC, XC = RdA.con ⟨⟨sp, sn, sc, sx⟩, e, p, n, c, seen, q, m, d, got⟩ := ⟨_, rfl⟩
  rw [← hXC] at con CT
  obtain ⟨FIT, hFIT⟩ : ∃ FIT, FIT = RdA.Fit ⟨⟨sp, sn, sc, sx⟩, e, p, n, c, seen, q, m, d, got⟩ := ⟨_, rfl⟩
  rw [← hFIT] at CS CT
  clear hXC hFIT
  by_cases hbig : bn ≤ 1048576
  · have hbig2 : ¬ (1048576 < (bn : Int)) := by omega
    have TB := fun X (b : Below w.heap.size w X) => toByteS_own bp bn bc bx X hbig hbl (in_below hbi b)
    go_enter Try.func5, Try.ntmps5
    go_wp2_with (fail)
    refine (CS _ (b0 _)).mono ?_
    rintro z w1 ⟨r, rfl, hr, b1⟩
    have C1 := (Cells.made w _ _).on b1
    have k1 := below_on (b0 _) b1
    clear b1 CS
    rcases hr with rfl | ⟨hr1, hr2, fit⟩
    · go_wp2_with (fail)
      go_ret
      exact ⟨rfl, k1⟩
    · have hr3 : ¬ r < 0 := by omega
      have c0 : w1.cell? ⟨w.heap.size, 0, none⟩ = some (.slice sp sn sc) := (C1.2 0).1
      have c1 : w1.cell? ⟨w.heap.size, 1, none⟩ = some (.int .i64 e) := (C1.2 1).1
      have c2 : w1.cell? ⟨w.heap.size, 2, none⟩ = some (.slice p n c) := (C1.2 2).1
      have c3 : w1.cell? ⟨w.heap.size, 3, none⟩ = some (.slice q m d) := (C1.2 3).1
      go_wp2_with (fail)
      refine (CT _ k1 fit).mono ?_
      rintro z w2 ⟨y, rfl, oky, ey, b2, _⟩
      have C2 := C1.on b2
      have k2 := below_on k1 b2
      have hry := con.out y ey
      clear b2 c0 c1 c2 c3 C1
      go_wp2_with (fail)
      refine (TB _ k2).mono ?_
      rintro z w3 ⟨pb, cb, rfl, rb, b3⟩
      have C3 := C2.on b3
      have k3 := below_on k2 b3
      have oky3 := oky.on b3
      have okb3 : RwA.Ok w3 ⟨pb, bn, cb, bx⟩ := ⟨hbn, hbl, rb.bytes, hbb⟩
      clear b3 C2 rb
      go_wp2_with (fail)
      refine (specRead_any y ⟨pb, bn, cb, bx⟩ _ oky3 okb3).mono ?_
      rintro z w4 ⟨rfl, b4⟩
      have C4 := C3.on b4
      have k4 := below_on k3 b4
      dsimp only
      rw [hry]
      have c0 : w4.cell? ⟨w.heap.size, 0, none⟩ = some (.slice sp sn sc) := (C4.2 0).1
      have c1 : w4.cell? ⟨w.heap.size, 1, none⟩ = some (.int .i64 e) := (C4.2 1).1
      have c2 : w4.cell? ⟨w.heap.size, 2, none⟩ = some (.slice p n c) := (C4.2 2).1
      have c3 : w4.cell? ⟨w.heap.size, 3, none⟩ = some (.slice q m d) := (C4.2 3).1
      clear b4 C3 oky ey hry oky3 okb3
      go_wp2_with (fail)
      refine (CT _ k4 fit).mono ?_
      rintro z w5 ⟨y, rfl, oky, ey, b5, hyc⟩
      have C5 := C4.on b5
      have k5 := below_on k4 b5
      have hry := con.out y ey
      clear b5 c0 c1 c2 c3 C4
      obtain ⟨⟨sp2, sn2, sc2, sx2⟩, e2, p2, n2, cc2, seen2, q2, m2, d2, got2⟩ := y
      have E : RdA.cells ⟨⟨sp2, sn2, sc2, sx2⟩, e2, p2, n2, cc2, seen2, q2, m2, d2, got2⟩ = #[.slice sp2 sn2 sc2, .int .i64 e2, .slice p2 n2 cc2, .slice q2 m2 d2] := rfl
      rw [E]
      obtain ⟨w6, hw6⟩ : ∃ X, X = w5.alloc (.cells #[.slice sp2 sn2 sc2, .int .i64 e2, .slice p2 n2 cc2, .slice q2 m2 d2] 28) := ⟨_, rfl⟩
      have b6 : Below w5.heap.size w5 w6 := by rw [hw6]; exact made_below _ _ (Below.refl _ _)
      have CX : Cells w6 w5.heap.size #[.slice sp2 sn2 sc2, .int .i64 e2, .slice p2 n2 cc2, .slice q2 m2 d2] := by rw [hw6]; exact Cells.made _ _ _
      replace hw6 : Hid (w5.alloc (.cells #[.slice sp2 sn2 sc2, .int .i64 e2, .slice p2 n2 cc2, .slice q2 m2 d2] 28) = w6) := hw6.symm
      have C6 := C5.on b6
      have k6 := below_on k5 b6
      have ok6 := oky.on b6
      clear C5 oky
      go_wp2_with (rw [hw6.out])
      obtain ⟨B1, hB1⟩ : ∃ B1, B1 = w5.heap.size := ⟨_, rfl⟩
      rw [← hB1] at CX ⊢
      clear hB1 hw6
      refine (TB _ k6).mono ?_
      rintro z w7 ⟨pb, cb, rfl, rb, b7⟩
      have C7 := C6.on b7
      have D7 := CX.on b7
      have k7 := below_on k6 b7
      have ok7 := ok6.on b7
      have okb7 : RwA.Ok w7 ⟨pb, bn, cb, bx⟩ := ⟨hbn, hbl, rb.bytes, hbb⟩
      have CI := implRead_any _ ⟨pb, bn, cb, bx⟩ w7 ok7 okb7
      try dsimp only at CI
      try dsimp only at hry
      rw [E, hry] at CI
      have y0 : w7.cell? ⟨B1, 0, none⟩ = some (.slice sp2 sn2 sc2) := (D7.2 0).1
      have y1 : w7.cell? ⟨B1, 1, none⟩ = some (.int .i64 e2) := (D7.2 1).1
      have y2 : w7.cell? ⟨B1, 2, none⟩ = some (.slice p2 n2 cc2) := (D7.2 2).1
      have y3 : w7.cell? ⟨B1, 3, none⟩ = some (.slice q2 m2 d2) := (D7.2 3).1
      clear E hry con hyc ok6 C6 CX b7 b6
      go_wp2_with (fail)
      refine CI.mono ?_
      rintro z w8 ⟨rfl, b8⟩
      have C8 := C7.on b8
      have D8 := D7.on b8
      have k8 := below_on k7 b8
      have ok8 := ok7.on b8
      have rb8 := in_below okb7.bytes b8
      clear b8 C7 D7 CI y0 y1 y2 y3 ok7 okb7 rb k7 k6 k5 k4 k3 k2 k1
      have bdr : Below w8.heap.size w8 w8.drew := (Below.refl _ _).drew
      have kdr := below_on k8 bdr
      have HK : ∀ X, Below w8.heap.size w8 X → X.cell? ⟨w.heap.size, 0, none⟩ = some (.slice sp sn sc) ∧ X.cell? ⟨w.heap.size, 1, none⟩ = some (.int .i64 e) ∧ X.cell? ⟨w.heap.size, 2, none⟩ = some (.slice p n c) ∧ X.cell? ⟨w.heap.size, 3, none⟩ = some (.slice q m d) ∧ X.cell? ⟨B1, 0, none⟩ = some (.slice sp2 sn2 sc2) ∧ X.cell? ⟨B1, 1, none⟩ = some (.int .i64 e2) ∧ X.cell? ⟨B1, 2, none⟩ = some (.slice p2 n2 cc2) ∧ X.cell? ⟨B1, 3, none⟩ = some (.slice q2 m2 d2) := fun X hX => ⟨((C8.on hX).2 0).1, ((C8.on hX).2 1).1, ((C8.on hX).2 2).1, ((C8.on hX).2 3).1, ((D8.on hX).2 0).1, ((D8.on hX).2 1).1, ((D8.on hX).2 2).1, ((D8.on hX).2 3).1⟩
      have eqc : ∀ (y : RdA), Hid (y.con = XC) → decide ((RdA.con ⟨⟨sp2, sn2, sc2, sx2⟩, e2, p2, n2, cc2, seen2, q2, m2, d2, got2⟩) = y.con) = true := fun y h => decide_eq_true (ey.out.trans h.out.symm)
      have CE := fun (y : RdA) X (b : Below w8.heap.size w8 X) (oky : y.Ok X) => eqReader_any ⟨⟨sp2, sn2, sc2, sx2⟩, e2, p2, n2, cc2, seen2, q2, m2, d2, got2⟩ y X (ok8.on b) oky
      have hne : (R != R) = false := by simp
      go_wp2_with (fail)
      go_region_held3 (fun X => X.cell? ⟨w.heap.size, 0, none⟩ = some (.slice sp sn sc) ∧ X.cell? ⟨w.heap.size, 1, none⟩ = some (.int .i64 e) ∧ X.cell? ⟨w.heap.size, 2, none⟩ = some (.slice p n c) ∧ X.cell? ⟨w.heap.size, 3, none⟩ = some (.slice q m d) ∧ X.cell? ⟨B1, 0, none⟩ = some (.slice sp2 sn2 sc2) ∧ X.cell? ⟨B1, 1, none⟩ = some (.int .i64 e2) ∧ X.cell? ⟨B1, 2, none⟩ = some (.slice p2 n2 cc2) ∧ X.cell? ⟨B1, 3, none⟩ = some (.slice q2 m2 d2)) (exact HK _ (by repeat (with_reducible (first | exact Below.refl _ _ | refine below_drewR ?_ | refine below_on ?_ bq1 | refine below_on ?_ bq2)))) (first | (go_at_call 8; refine (CT _ kdr fit).mono ?_; rintro z wq ⟨yq, rfl, okq, eq, bq1, _⟩) | (go_at_call 10; refine (CE _ _ (below_on bdr bq1) okq).mono ?_; rintro z w9 ⟨rfl, bq2⟩; rw [eqc _ eq]))
      have b9 : Below w8.heap.size w8 w9 := below_on (below_on bdr bq1) bq2
      have k9 := below_on k8 b9
      clear bq1 bq2 bdr kdr HK CE
      go_wp2_with (fail)
      refine (TB _ k9).mono ?_
      rintro z w10 ⟨pc, cc, rfl, rc, b10⟩
      have k10 := below_on k9 b10
      have EQ := eqByteS_any pb pc bn bn cb cc bx bx w10 hbn hbl hbl (in_below rb8 (below_on b9 b10)) rc.bytes
      rw [decide_eq_true rfl] at EQ
      clear b9 b10
      go_wp2_with (fail)
      refine EQ.mono ?_
      rintro z w11 ⟨rfl, b11⟩
      have k11 := below_on k10 b11
      clear b11
      go_wp2_with (fail)
      go_ret
      exact ⟨rfl, k11⟩
  · have hbig2 : 1048576 < (bn : Int) := by omega
    clear CS CT con
    go_enter Try.func5, Try.ntmps5
    go_wp2_with (fail)
    go_ret
    exact ⟨rfl, b0 _⟩

end Go.Proofs.Ytelfejgpphoifaa
