/-
  FnLetters returns true for any code, and writes nothing that was there; conditions: bytes all, and the table is as its text says.
-/
import Derived.Test.YtdjdanpicbaieaaDoorPart06
import Derived.Test.YtdjdanpicbaieaaDoorPart05
import Derived.Test.YtdjdanpicbaieaaDoorPart03
import Derived.Test.YtdjdanpicbaieaaDoorPart17
import Derived.Test.YtdjdanpicbaieaaDoorPart02
import Derived.Test.YtdjdanpicbaieaaDoorPart18
namespace Go.Proofs.YtdjdanpicbaieaaDoor
open Go.RowKit
set_option maxRecDepth 100000

set_option maxHeartbeats 32000000 in
theorem fnLetters_small (p : Option Addr) (n c : Nat) (xs : List Int) (w : World) (hn : n ≤ 1048576) (hx : xs.length = n) (h : BytesIn w p n xs) (hb : ∀ x ∈ xs, 0 ≤ x ∧ x < 256) (hK : KeysIs w) :
    Calls Tryd.prog 5 #[.slice p n c] w fun e w' => e = .returned (.bool true) ∧ Below w.heap.size w w' := by
  go_enter Tryd.func5, Tryd.ntmps5
  go_wp2_with (fail)
  refine (big_small p n c _ hn).mono ?_
  rintro e w1 ⟨rfl, b1⟩
  have k1 : Below w.heap.size w w1 := below_on (Below.refl _ _) b1
  have z1 := b1.size
  go_wp2_with (fail)
  refine (dLetterBytes p n c xs _ hn hx (in_below h k1) hb).mono ?_
  rintro e w2 ⟨el, pla, nla, cla, plb, nlb, clb, yla, ylb, rfl, ⟨hel, hnla, hnlb, hyla, hylb⟩, rla, rlb, b2⟩
  have k2 : Below w.heap.size w w2 := below_on k1 b2
  have z2 := b2.size
  obtain ⟨w3, hw3⟩ : ∃ X, X = w2.alloc (.cells #[.int .i64 el, .slice pla nla cla, .slice plb nlb clb] 31) := ⟨_, rfl⟩
  have b3 : Below w2.heap.size w2 w3 := by rw [hw3]; exact made_below _ _ (Below.refl _ _)
  have k3 : Below w.heap.size w w3 := below_on k2 b3
  have z3 := b3.size
  replace rla := rla.on b3
  replace rlb := rlb.on b3
  have CL : Cells w3 w2.heap.size #[.int .i64 el, .slice pla nla cla, .slice plb nlb clb] := by rw [hw3]; exact Cells.made _ _ _
  replace hw3 : Hid (w2.alloc (.cells #[.int .i64 el, .slice pla nla cla, .slice plb nlb clb] 31) = w3) := hw3.symm
  have lL0 : w3.cell? ⟨w2.heap.size, 0, none⟩ = some (.int .i64 el) := (CL.2 0).1
  have lL1 : w3.cell? ⟨w2.heap.size, 1, none⟩ = some (.slice pla nla cla) := (CL.2 1).1
  have lL2 : w3.cell? ⟨w2.heap.size, 2, none⟩ = some (.slice plb nlb clb) := (CL.2 2).1
  go_wp2_with (rw [hw3.out])
  clear hw3
  obtain ⟨BL, hBL⟩ : ∃ X, X = w2.heap.size := ⟨_, rfl⟩
  rw [← hBL] at CL lL0 lL1 lL2 ⊢
  clear hBL
  have CLB := implLetterBytes_any el pla plb nla cla nlb clb yla ylb _ (by omega) rla.len rlb.len rla.bytes rlb.bytes
  have CLS := fun X (h1 : BytesIn X pla nla yla) (h2 : BytesIn X plb nlb ylb) => specLetterBytes_any el pla plb nla cla nlb clb yla ylb X (by omega) rla.len rlb.len h1 h2
  obtain ⟨NB, hNB⟩ : ∃ N, N = lbN el nla nlb := ⟨_, rfl⟩
  obtain ⟨LB, hLB⟩ : ∃ L, L = lbL el yla ylb := ⟨_, rfl⟩
  rw [← hNB, ← hLB] at CLB
  rw [← hNB, ← hLB] at CLS
  replace hNB : Hid (NB = lbN el nla nlb) := hNB
  replace hLB : Hid (LB = lbL el yla ylb) := hLB
  refine CLB.mono ?_
  rintro e w4 ⟨pr1, cr1, rfl, r1, b4⟩
  have k4 : Below w.heap.size w w4 := below_on k3 b4
  have z4 := b4.size
  replace rla := rla.on b4
  replace rlb := rlb.on b4
  replace CL := CL.on b4
  clear CLB lL0 lL1 lL2
  go_wp2_with (fail)
  refine (dLetterOf p n c xs _ hn hx (in_below h k4) hb).mono ?_
  rintro e w5 ⟨px, kx, cx, yx, rfl, ⟨hkx, hyx⟩, rx, b5⟩
  have k5 : Below w.heap.size w w5 := below_on k4 b5
  have z5 := b5.size
  replace rla := rla.on b5
  replace rlb := rlb.on b5
  replace r1 := r1.on b5
  replace CL := CL.on b5
  have CI := implLetterOf_any px kx cx yx _ (by omega) rx.len rx.bytes hyx rx.cap
  have CS := fun X (hX : BytesIn X px kx yx) => specLetterOf_any px kx cx yx X (by omega) rx.len hX hyx rx.cap
  obtain ⟨EX, hEX⟩ : ∃ E, E = loE yx := ⟨_, rfl⟩
  obtain ⟨NX, hNX⟩ : ∃ E, E = loN yx := ⟨_, rfl⟩
  obtain ⟨MX, hMX⟩ : ∃ E, E = loM yx := ⟨_, rfl⟩
  obtain ⟨XX, hXX⟩ : ∃ E, E = loX yx := ⟨_, rfl⟩
  obtain ⟨YX, hYX⟩ : ∃ E, E = loY yx := ⟨_, rfl⟩
  obtain ⟨OX, hOX⟩ : ∃ E, E = decide (loOk yx) := ⟨_, rfl⟩
  rw [← hEX, ← hNX, ← hMX, ← hXX, ← hYX, ← hOX] at CI
  simp only [← hEX, ← hNX, ← hMX, ← hXX, ← hYX, ← hOX] at CS
  have HX : Hid (EX = loE yx ∧ NX = loN yx ∧ MX = loM yx ∧ XX = loX yx ∧ YX = loY yx ∧ OX = decide (loOk yx)) := ⟨hEX, hNX, hMX, hXX, hYX, hOX⟩
  have hMX2 : MX ≤ 1516 := by rw [hMX]; exact loM_le yx
  clear hEX hNX hMX hXX hYX hOX
  go_wp2_with (fail)
  refine (CI).mono ?_
  rintro e w6 ⟨pya, cya, pyb, cyb, rfl, ⟨lya, hya, lyb, hyb, rya, ryb, uya, uyb, uyd⟩, b6⟩
  have k6 : Below w.heap.size w w6 := below_on k5 b6
  have z6 := b6.size
  replace rla := rla.on b6
  replace rlb := rlb.on b6
  replace r1 := r1.on b6
  replace rx := rx.on b6
  replace CL := CL.on b6
  clear uya uyb uyd
  obtain ⟨w7, hw7⟩ : ∃ X, X = w6.alloc (.cells #[.int .i64 EX, .slice pya NX cya, .slice pyb MX cyb] 31) := ⟨_, rfl⟩
  have b7 : Below w6.heap.size w6 w7 := by rw [hw7]; exact made_below _ _ (Below.refl _ _)
  have k7 : Below w.heap.size w w7 := below_on k6 b7
  have z7 := b7.size
  replace rla := rla.on b7
  replace rlb := rlb.on b7
  replace r1 := r1.on b7
  replace rx := rx.on b7
  replace rya := rya.on b7
  replace ryb := ryb.on b7
  replace CL := CL.on b7
  have CY : Cells w7 w6.heap.size #[.int .i64 EX, .slice pya NX cya, .slice pyb MX cyb] := by rw [hw7]; exact Cells.made _ _ _
  replace hw7 : Hid (w6.alloc (.cells #[.int .i64 EX, .slice pya NX cya, .slice pyb MX cyb] 31) = w7) := hw7.symm
  go_wp2_with (rw [hw7.out])
  clear hw7
  obtain ⟨BY, hBY⟩ : ∃ X, X = w6.heap.size := ⟨_, rfl⟩
  rw [← hBY] at CY ⊢
  clear hBY
  refine (CS _ rx.bytes).mono ?_
  rintro e w8 ⟨pza, cza, pzb, czb, rfl, ⟨lza, hza, lzb, hzb, rza, rzb, uza, uzb, uzd⟩, b8⟩
  have k8 : Below w.heap.size w w8 := below_on k7 b8
  have z8 := b8.size
  replace rla := rla.on b8
  replace rlb := rlb.on b8
  replace r1 := r1.on b8
  replace rx := rx.on b8
  replace rya := rya.on b8
  replace ryb := ryb.on b8
  replace CL := CL.on b8
  replace CY := CY.on b8
  clear uza uzb uzd
  obtain ⟨w9, hw9⟩ : ∃ X, X = w8.alloc (.cells #[.int .i64 EX, .slice pza NX cza, .slice pzb MX czb] 31) := ⟨_, rfl⟩
  have b9 : Below w8.heap.size w8 w9 := by rw [hw9]; exact made_below _ _ (Below.refl _ _)
  have k9 : Below w.heap.size w w9 := below_on k8 b9
  have z9 := b9.size
  replace rla := rla.on b9
  replace rlb := rlb.on b9
  replace r1 := r1.on b9
  replace rx := rx.on b9
  replace rya := rya.on b9
  replace ryb := ryb.on b9
  replace rza := rza.on b9
  replace rzb := rzb.on b9
  replace CL := CL.on b9
  replace CY := CY.on b9
  have CZ : Cells w9 w8.heap.size #[.int .i64 EX, .slice pza NX cza, .slice pzb MX czb] := by rw [hw9]; exact Cells.made _ _ _
  replace hw9 : Hid (w8.alloc (.cells #[.int .i64 EX, .slice pza NX cza, .slice pzb MX czb] 31) = w9) := hw9.symm
  go_wp2_with (rw [hw9.out])
  clear hw9
  obtain ⟨BZ, hBZ⟩ : ∃ X, X = w8.heap.size := ⟨_, rfl⟩
  rw [← hBZ] at CZ ⊢
  clear hBZ
  clear CS
  refine (dKeysOf p n c xs _ hn hx (in_below h k9) hb).mono ?_
  rintro e w10 ⟨gs, ks, cs, ys, gf, kf, cf, yf, gt, kt, ct, yt, rfl, ⟨hks, hkf, hkt, hys, hyf, hyt⟩, rs, rf, rt, b10⟩
  have k10 : Below w.heap.size w w10 := below_on k9 b10
  have z10 := b10.size
  replace rla := rla.on b10
  replace rlb := rlb.on b10
  replace r1 := r1.on b10
  replace rx := rx.on b10
  replace rya := rya.on b10
  replace ryb := ryb.on b10
  replace rza := rza.on b10
  replace rzb := rzb.on b10
  replace CL := CL.on b10
  replace CY := CY.on b10
  replace CZ := CZ.on b10
  go_wp2_with (fail)
  refine (implKeys_any (some ⟨gs, 0, none⟩) (some ⟨gf, 0, none⟩) (some ⟨gt, 0, none⟩) ks kf kt cs cf ct ys yf yt _ (by omega) (by omega) rs.len rf.len rt.len rs.bytes rf.bytes rt.bytes hys hyf hyt (keys_below hK k10)).mono ?_
  rintro e w11 ⟨pka, cka, pkb, ckb, rfl, ⟨lka, hka, lkb, hkb, rka, rkb, uka, ukb, ukd⟩, b11⟩
  have k11 : Below w.heap.size w w11 := below_on k10 b11
  have z11 := b11.size
  replace rla := rla.on b11
  replace rlb := rlb.on b11
  replace r1 := r1.on b11
  replace rx := rx.on b11
  replace rya := rya.on b11
  replace ryb := ryb.on b11
  replace rza := rza.on b11
  replace rzb := rzb.on b11
  replace rs := rs.on b11
  replace rf := rf.on b11
  replace rt := rt.on b11
  replace CL := CL.on b11
  replace CY := CY.on b11
  replace CZ := CZ.on b11
  clear uka ukb ukd
  go_wp2_with (fail)
  refine (specKeys_any (some ⟨gs, 0, none⟩) (some ⟨gf, 0, none⟩) (some ⟨gt, 0, none⟩) ks kf kt cs cf ct ys yf yt _ (by omega) (by omega) rs.len rf.len rt.len rs.bytes rf.bytes rt.bytes hys hyf hyt).mono ?_
  rintro e w12 ⟨poa, coa, pob, cob, rfl, ⟨loa, hoa, lob, hob, roa, rob, uoa, uob, uod⟩, b12⟩
  have k12 : Below w.heap.size w w12 := below_on k11 b12
  have z12 := b12.size
  replace rla := rla.on b12
  replace rlb := rlb.on b12
  replace r1 := r1.on b12
  replace rx := rx.on b12
  replace rya := rya.on b12
  replace ryb := ryb.on b12
  replace rza := rza.on b12
  replace rzb := rzb.on b12
  replace rs := rs.on b12
  replace rf := rf.on b12
  replace rt := rt.on b12
  replace rka := rka.on b12
  replace rkb := rkb.on b12
  replace CL := CL.on b12
  replace CY := CY.on b12
  replace CZ := CZ.on b12
  clear uoa uob uod
  clear rs rf rt hys hyf hyt hks hkf hkt
  go_wp2_with (fail)
  refine (dLetterOk p n c xs _ hn hx (in_below h k12) hb).mono ?_
  rintro e w13 ⟨eq, pqa, nqa, cqa, pqb, nqb, cqb, yqa, yqb, rfl, ⟨heq, hnqa, hnqb, hyqa, hyqb⟩, rqa, rqb, b13⟩
  have k13 : Below w.heap.size w w13 := below_on k12 b13
  have z13 := b13.size
  replace rla := rla.on b13
  replace rlb := rlb.on b13
  replace r1 := r1.on b13
  replace rx := rx.on b13
  replace rya := rya.on b13
  replace ryb := ryb.on b13
  replace rza := rza.on b13
  replace rzb := rzb.on b13
  replace rka := rka.on b13
  replace rkb := rkb.on b13
  replace roa := roa.on b13
  replace rob := rob.on b13
  replace CL := CL.on b13
  replace CY := CY.on b13
  replace CZ := CZ.on b13
  obtain ⟨w14, hw14⟩ : ∃ X, X = w13.alloc (.cells #[.int .i64 eq, .slice pqa nqa cqa, .slice pqb nqb cqb] 31) := ⟨_, rfl⟩
  have b14 : Below w13.heap.size w13 w14 := by rw [hw14]; exact made_below _ _ (Below.refl _ _)
  have k14 : Below w.heap.size w w14 := below_on k13 b14
  have z14 := b14.size
  replace rla := rla.on b14
  replace rlb := rlb.on b14
  replace r1 := r1.on b14
  replace rx := rx.on b14
  replace rya := rya.on b14
  replace ryb := ryb.on b14
  replace rza := rza.on b14
  replace rzb := rzb.on b14
  replace rka := rka.on b14
  replace rkb := rkb.on b14
  replace roa := roa.on b14
  replace rob := rob.on b14
  replace rqa := rqa.on b14
  replace rqb := rqb.on b14
  replace CL := CL.on b14
  replace CY := CY.on b14
  replace CZ := CZ.on b14
  have CQ : Cells w14 w13.heap.size #[.int .i64 eq, .slice pqa nqa cqa, .slice pqb nqb cqb] := by rw [hw14]; exact Cells.made _ _ _
  replace hw14 : Hid (w13.alloc (.cells #[.int .i64 eq, .slice pqa nqa cqa, .slice pqb nqb cqb] 31) = w14) := hw14.symm
  go_wp2_with (rw [hw14.out])
  clear hw14
  obtain ⟨BQ, hBQ⟩ : ∃ X, X = w13.heap.size := ⟨_, rfl⟩
  rw [← hBQ] at CQ ⊢
  clear hBQ
  clear rqa rqb hyqa hyqb heq hx hb
  generalize kyL ys yf yt = KL at rka roa
  generalize ncL ys yf yt = QL at rkb rob
  have CQI := fun X => implLetterOk_any eq pqa pqb nqa cqa nqb cqb X (by omega)
  have CQS := fun X => specLetterOk_any eq pqa pqb nqa cqa nqb cqb X (by omega)
  generalize decide (letOk eq nqa nqb) = OQ at CQI CQS
  have hOQ : (OQ != OQ) = false := by simp
  have hOX : (OX != OX) = false := by simp
  have HK : ∀ w', Below w14.heap.size w14 w' → w'.cell? ⟨BL, 0, none⟩ = some (.int .i64 el) ∧ w'.cell? ⟨BL, 1, none⟩ = some (.slice pla nla cla) ∧ w'.cell? ⟨BL, 2, none⟩ = some (.slice plb nlb clb) ∧ w'.cell? ⟨BY, 0, none⟩ = some (.int .i64 EX) ∧ w'.cell? ⟨BY, 1, none⟩ = some (.slice pya NX cya) ∧ w'.cell? ⟨BY, 2, none⟩ = some (.slice pyb MX cyb) ∧ w'.cell? ⟨BZ, 0, none⟩ = some (.int .i64 EX) ∧ w'.cell? ⟨BZ, 1, none⟩ = some (.slice pza NX cza) ∧ w'.cell? ⟨BZ, 2, none⟩ = some (.slice pzb MX czb) ∧ w'.cell? ⟨BQ, 0, none⟩ = some (.int .i64 eq) ∧ w'.cell? ⟨BQ, 1, none⟩ = some (.slice pqa nqa cqa) ∧ w'.cell? ⟨BQ, 2, none⟩ = some (.slice pqb nqb cqb) := fun w' hX => ⟨((CL.on hX).2 0).1, ((CL.on hX).2 1).1, ((CL.on hX).2 2).1, ((CY.on hX).2 0).1, ((CY.on hX).2 1).1, ((CY.on hX).2 2).1, ((CZ.on hX).2 0).1, ((CZ.on hX).2 1).1, ((CZ.on hX).2 2).1, ((CQ.on hX).2 0).1, ((CQ.on hX).2 1).1, ((CQ.on hX).2 2).1⟩
  have CLY := fun X (h1 : BytesIn X pya NX XX) (h2 : BytesIn X pyb MX YX) => implLetterBytes_any EX pya pyb NX cya MX cyb XX YX X (by omega) rya.len ryb.len h1 h2
  clear b1 z1 b2 z2 b3 z3 b4 z4 b5 z5 b6 z6 b7 z7 b8 z8 b9 z9 b10 z10 b11 z11 b12 z12 b13 z13 b14 z14
  by_cases hX : loOk yx
  · have hlb := lb_of_lo hX hyx
    obtain ⟨q1, q2, q3, q4, q5, q6⟩ := HX.out
    rw [decide_eq_true hX] at q6
    subst q6
    have hEq : lbL EX XX YX = yx := by rw [q1, q4, q5]; exact hlb.2.1
    have hNq : lbN EX NX MX = kx := by rw [q1, q2, q3, hlb.2.2.2.2]; exact rx.len
    rw [hEq, hNq] at CLY
    clear hlb q1 q2 q3 q4 q5 hEq hNq HX hX
    have bdr : Below w14.heap.size w14 w14.drew := (Below.refl _ _).drew
    go_wp2_with (fail)
    go_region_held3 (fun w' => w'.cell? ⟨BL, 0, none⟩ = some (.int .i64 el) ∧ w'.cell? ⟨BL, 1, none⟩ = some (.slice pla nla cla) ∧ w'.cell? ⟨BL, 2, none⟩ = some (.slice plb nlb clb) ∧ w'.cell? ⟨BY, 0, none⟩ = some (.int .i64 EX) ∧ w'.cell? ⟨BY, 1, none⟩ = some (.slice pya NX cya) ∧ w'.cell? ⟨BY, 2, none⟩ = some (.slice pyb MX cyb) ∧ w'.cell? ⟨BZ, 0, none⟩ = some (.int .i64 EX) ∧ w'.cell? ⟨BZ, 1, none⟩ = some (.slice pza NX cza) ∧ w'.cell? ⟨BZ, 2, none⟩ = some (.slice pzb MX czb) ∧ w'.cell? ⟨BQ, 0, none⟩ = some (.int .i64 eq) ∧ w'.cell? ⟨BQ, 1, none⟩ = some (.slice pqa nqa cqa) ∧ w'.cell? ⟨BQ, 2, none⟩ = some (.slice pqb nqb cqb)) (exact HK _ (by repeat (with_reducible (first | exact Below.refl _ _ | refine below_drewL ?_ | refine below_on ?_ bq9 | refine below_on ?_ bq8 | refine below_on ?_ bq7 | refine below_on ?_ bq6 | refine below_on ?_ bq5 | refine below_on ?_ bq4 | refine below_on ?_ bq3 | refine below_on ?_ bq2 | refine below_on ?_ bq1)))) (first | (go_at_call 25; refine (CLS _ (in_below rla.bytes (by repeat (with_reducible (first | exact Below.refl _ _ | refine below_drewL ?_ | refine below_on ?_ bq9 | refine below_on ?_ bq8 | refine below_on ?_ bq7 | refine below_on ?_ bq6 | refine below_on ?_ bq5 | refine below_on ?_ bq4 | refine below_on ?_ bq3 | refine below_on ?_ bq2 | refine below_on ?_ bq1)))) (in_below rlb.bytes (by repeat (with_reducible (first | exact Below.refl _ _ | refine below_drewL ?_ | refine below_on ?_ bq9 | refine below_on ?_ bq8 | refine below_on ?_ bq7 | refine below_on ?_ bq6 | refine below_on ?_ bq5 | refine below_on ?_ bq4 | refine below_on ?_ bq3 | refine below_on ?_ bq2 | refine below_on ?_ bq1))))).mono ?_; rintro z wq1 ⟨pq, cq, rfl, rq, bq1⟩) | (go_at_call 24; refine (implSame_any pr1 pq NB NB cr1 cq LB LB _ r1.len rq.len (in_below r1.bytes (by repeat (with_reducible (first | exact Below.refl _ _ | refine below_drewL ?_ | refine below_on ?_ bq9 | refine below_on ?_ bq8 | refine below_on ?_ bq7 | refine below_on ?_ bq6 | refine below_on ?_ bq5 | refine below_on ?_ bq4 | refine below_on ?_ bq3 | refine below_on ?_ bq2 | refine below_on ?_ bq1)))) (in_below rq.bytes (by repeat (with_reducible (first | exact Below.refl _ _ | refine below_drewL ?_ | refine below_on ?_ bq9 | refine below_on ?_ bq8 | refine below_on ?_ bq7 | refine below_on ?_ bq6 | refine below_on ?_ bq5 | refine below_on ?_ bq4 | refine below_on ?_ bq3 | refine below_on ?_ bq2 | refine below_on ?_ bq1))))).mono ?_; rintro z wq2 ⟨rfl, bq2⟩) | (go_at_call 26; refine (sameLetter_yes EX pya pyb pza pzb NX cya MX cyb cza czb XX YX _ rya.len ryb.len (in_below rya.bytes (by repeat (with_reducible (first | exact Below.refl _ _ | refine below_drewL ?_ | refine below_on ?_ bq9 | refine below_on ?_ bq8 | refine below_on ?_ bq7 | refine below_on ?_ bq6 | refine below_on ?_ bq5 | refine below_on ?_ bq4 | refine below_on ?_ bq3 | refine below_on ?_ bq2 | refine below_on ?_ bq1)))) (in_below ryb.bytes (by repeat (with_reducible (first | exact Below.refl _ _ | refine below_drewL ?_ | refine below_on ?_ bq9 | refine below_on ?_ bq8 | refine below_on ?_ bq7 | refine below_on ?_ bq6 | refine below_on ?_ bq5 | refine below_on ?_ bq4 | refine below_on ?_ bq3 | refine below_on ?_ bq2 | refine below_on ?_ bq1)))) (in_below rza.bytes (by repeat (with_reducible (first | exact Below.refl _ _ | refine below_drewL ?_ | refine below_on ?_ bq9 | refine below_on ?_ bq8 | refine below_on ?_ bq7 | refine below_on ?_ bq6 | refine below_on ?_ bq5 | refine below_on ?_ bq4 | refine below_on ?_ bq3 | refine below_on ?_ bq2 | refine below_on ?_ bq1)))) (in_below rzb.bytes (by repeat (with_reducible (first | exact Below.refl _ _ | refine below_drewL ?_ | refine below_on ?_ bq9 | refine below_on ?_ bq8 | refine below_on ?_ bq7 | refine below_on ?_ bq6 | refine below_on ?_ bq5 | refine below_on ?_ bq4 | refine below_on ?_ bq3 | refine below_on ?_ bq2 | refine below_on ?_ bq1))))).mono ?_; rintro z wq3 ⟨rfl, bq3⟩) | (go_at_call 24; refine (implSame_any pka poa 32 32 cka coa KL KL _ rka.len roa.len (in_below rka.bytes (by repeat (with_reducible (first | exact Below.refl _ _ | refine below_drewL ?_ | refine below_on ?_ bq9 | refine below_on ?_ bq8 | refine below_on ?_ bq7 | refine below_on ?_ bq6 | refine below_on ?_ bq5 | refine below_on ?_ bq4 | refine below_on ?_ bq3 | refine below_on ?_ bq2 | refine below_on ?_ bq1)))) (in_below roa.bytes (by repeat (with_reducible (first | exact Below.refl _ _ | refine below_drewL ?_ | refine below_on ?_ bq9 | refine below_on ?_ bq8 | refine below_on ?_ bq7 | refine below_on ?_ bq6 | refine below_on ?_ bq5 | refine below_on ?_ bq4 | refine below_on ?_ bq3 | refine below_on ?_ bq2 | refine below_on ?_ bq1))))).mono ?_; rintro z wq4 ⟨rfl, bq4⟩) | (go_at_call 24; refine (implSame_any pkb pob 12 12 ckb cob QL QL _ rkb.len rob.len (in_below rkb.bytes (by repeat (with_reducible (first | exact Below.refl _ _ | refine below_drewL ?_ | refine below_on ?_ bq9 | refine below_on ?_ bq8 | refine below_on ?_ bq7 | refine below_on ?_ bq6 | refine below_on ?_ bq5 | refine below_on ?_ bq4 | refine below_on ?_ bq3 | refine below_on ?_ bq2 | refine below_on ?_ bq1)))) (in_below rob.bytes (by repeat (with_reducible (first | exact Below.refl _ _ | refine below_drewL ?_ | refine below_on ?_ bq9 | refine below_on ?_ bq8 | refine below_on ?_ bq7 | refine below_on ?_ bq6 | refine below_on ?_ bq5 | refine below_on ?_ bq4 | refine below_on ?_ bq3 | refine below_on ?_ bq2 | refine below_on ?_ bq1))))).mono ?_; rintro z wq5 ⟨rfl, bq5⟩) | (go_at_call 27; refine (CQI _).mono ?_; rintro z wq6 ⟨rfl, bq6⟩) | (go_at_call 28; refine (CQS _).mono ?_; rintro z wq7 ⟨rfl, bq7⟩) | (go_at_call 16; refine (CLY _ (in_below rya.bytes (by repeat (with_reducible (first | exact Below.refl _ _ | refine below_drewL ?_ | refine below_on ?_ bq9 | refine below_on ?_ bq8 | refine below_on ?_ bq7 | refine below_on ?_ bq6 | refine below_on ?_ bq5 | refine below_on ?_ bq4 | refine below_on ?_ bq3 | refine below_on ?_ bq2 | refine below_on ?_ bq1)))) (in_below ryb.bytes (by repeat (with_reducible (first | exact Below.refl _ _ | refine below_drewL ?_ | refine below_on ?_ bq9 | refine below_on ?_ bq8 | refine below_on ?_ bq7 | refine below_on ?_ bq6 | refine below_on ?_ bq5 | refine below_on ?_ bq4 | refine below_on ?_ bq3 | refine below_on ?_ bq2 | refine below_on ?_ bq1))))).mono ?_; rintro z wq8 ⟨pv, cv, rfl, rv, bq8⟩) | (go_at_call 24; refine (implSame_any pv px kx kx cv cx yx yx _ rv.len rx.len (in_below rv.bytes (by repeat (with_reducible (first | exact Below.refl _ _ | refine below_drewL ?_ | refine below_on ?_ bq9 | refine below_on ?_ bq8 | refine below_on ?_ bq7 | refine below_on ?_ bq6 | refine below_on ?_ bq5 | refine below_on ?_ bq4 | refine below_on ?_ bq3 | refine below_on ?_ bq2 | refine below_on ?_ bq1)))) (in_below rx.bytes (by repeat (with_reducible (first | exact Below.refl _ _ | refine below_drewL ?_ | refine below_on ?_ bq9 | refine below_on ?_ bq8 | refine below_on ?_ bq7 | refine below_on ?_ bq6 | refine below_on ?_ bq5 | refine below_on ?_ bq4 | refine below_on ?_ bq3 | refine below_on ?_ bq2 | refine below_on ?_ bq1))))).mono ?_; rintro z wq9 ⟨rfl, bq9⟩))
    have bV : Below w14.heap.size w14 wq9 := below_on (below_on (below_on (below_on (below_on (below_on (below_on (below_on (below_on bdr bq1) bq2) bq3) bq4) bq5) bq6) bq7) bq8) bq9
    have kV := below_on k14 bV
    have CLv := CL.on bV
    replace rla := rla.on bV
    replace rlb := rlb.on bV
    replace r1 := r1.on bV
    have ll0 : wq9.cell? ⟨BL, 0, none⟩ = some (.int .i64 el) := (CLv.2 0).1
    have ll1 : wq9.cell? ⟨BL, 1, none⟩ = some (.slice pla nla cla) := (CLv.2 1).1
    have ll2 : wq9.cell? ⟨BL, 2, none⟩ = some (.slice plb nlb clb) := (CLv.2 2).1
    have COK := fun X => implLetterOk_any el pla plb nla cla nlb clb X (by omega)
    clear HK CLS CQI CQS CLY bdr
    by_cases hok : letOk el nla nlb
    · have hok' : letOk el yla.length ylb.length := by rw [rla.len, rlb.len]; exact hok
      have hlo := lo_of_lb hok'
      have hN : NB = 35 + nlb := by rw [hNB.out, lbN, if_pos hok]
      have hm16 : 16 ≤ nlb ∧ nlb ≤ 1516 := ⟨hok.2.2.2.1, hok.2.2.2.2⟩
      have hbB : ∀ y ∈ LB, 0 ≤ y ∧ y < 256 := by rw [hLB.out]; exact lbL_byte hyla hylb
      rw [← hLB.out, rla.len, rlb.len] at hlo
      obtain ⟨h1, h2, h3, h4, h5, h6⟩ := hlo
      simp only [decide_eq_true hok] at COK
      have hcapB := r1.cap
      have CB := fun X (hX : BytesIn X pr1 NB LB) => implLetterOf_any pr1 NB cr1 LB X (by omega) r1.len hX hbB hcapB
      simp only [h2, h3, h4, h5, h6, decide_eq_true h1] at CB
      have rt := r1.take (k := 40) (by omega)
      have hs := lo_short (bs := LB.take 40) (by rw [List.length_take]; omega)
      have hbT : ∀ y ∈ LB.take 40, 0 ≤ y ∧ y < 256 := fun y hy => hbB y (List.mem_of_mem_take hy)
      have CT := fun X (hX : BytesIn X pr1 40 (LB.take 40)) => implLetterOf_any pr1 40 cr1 (LB.take 40) X (by omega) rt.len hX hbT (by omega)
      simp only [hs.2.1, hs.2.2.1, hs.2.2.2.1, hs.2.2.2.2.1, hs.2.2.2.2.2, decide_eq_false hs.1] at CT
      have sl := fun X => slice_to pr1 NB cr1 40 (by omega) (fun h => own_nil rt h) X
      have e35 : 35 + (nlb : Int) = (NB : Int) := by omega
      clear h1 h2 h3 h4 h5 h6 hs hbB hbT hok' hok hyla hylb hN
      go_wp2_with (fail)
      refine (COK _).mono ?_
      rintro e v1 ⟨rfl, d1⟩
      replace CLv := CLv.on d1
      replace rla := rla.on d1
      replace rlb := rlb.on d1
      replace rt := rt.on d1
      replace r1 := r1.on d1
      have kV1 := below_on kV d1
      clear ll0 ll1 ll2 COK
      go_wp2_with (fail)
      refine (CB _ r1.bytes).mono ?_
      rintro e v2 ⟨pka2, cka2, pkb2, ckb2, rfl, ⟨_, _, _, _, rA, rB, _, _, _⟩, d2⟩
      replace CLv := CLv.on d2
      replace rla := rla.on d2
      replace rlb := rlb.on d2
      replace rt := rt.on d2
      have kV2 := below_on kV1 d2
      clear CB r1
      obtain ⟨v3, hv3⟩ : ∃ X, X = v2.alloc (.cells #[.int .i64 el, .slice pka2 nla cka2, .slice pkb2 nlb ckb2] 31) := ⟨_, rfl⟩
      have d3 : Below v2.heap.size v2 v3 := by rw [hv3]; exact made_below _ _ (Below.refl _ _)
      have CK : Cells v3 v2.heap.size #[.int .i64 el, .slice pka2 nla cka2, .slice pkb2 nlb ckb2] := by rw [hv3]; exact Cells.made _ _ _
      replace CLv := CLv.on d3
      replace rla := rla.on d3
      replace rlb := rlb.on d3
      replace rt := rt.on d3
      replace rA := rA.on d3
      replace rB := rB.on d3
      have kV3 := below_on kV2 d3
      replace hv3 : Hid (v2.alloc (.cells #[.int .i64 el, .slice pka2 nla cka2, .slice pkb2 nlb ckb2] 31) = v3) := hv3.symm
      go_wp2_with (rw [hv3.out])
      clear hv3
      obtain ⟨BK, hBK⟩ : ∃ X, X = v2.heap.size := ⟨_, rfl⟩
      rw [← hBK] at CK ⊢
      clear hBK
      refine (CT _ rt.bytes).mono ?_
      rintro e v4 ⟨pc1, cc1, pc2, cc2, rfl, _, d4⟩
      replace CLv := CLv.on d4
      replace rla := rla.on d4
      replace rlb := rlb.on d4
      replace rA := rA.on d4
      replace rB := rB.on d4
      replace CK := CK.on d4
      have kV4 := below_on kV3 d4
      clear CT rt
      obtain ⟨v5, hv5⟩ : ∃ X, X = v4.alloc (.cells #[.int .i64 0, .slice pc1 0 cc1, .slice pc2 0 cc2] 31) := ⟨_, rfl⟩
      have d5 : Below v4.heap.size v4 v5 := by rw [hv5]; exact made_below _ _ (Below.refl _ _)
      replace CLv := CLv.on d5
      replace rla := rla.on d5
      replace rlb := rlb.on d5
      replace rA := rA.on d5
      replace rB := rB.on d5
      replace CK := CK.on d5
      have kV5 := below_on kV4 d5
      replace hv5 : Hid (v4.alloc (.cells #[.int .i64 0, .slice pc1 0 cc1, .slice pc2 0 cc2] 31) = v5) := hv5.symm
      have ll0 : v5.cell? ⟨BL, 0, none⟩ = some (.int .i64 el) := (CLv.2 0).1
      have ll1 : v5.cell? ⟨BL, 1, none⟩ = some (.slice pla nla cla) := (CLv.2 1).1
      have ll2 : v5.cell? ⟨BL, 2, none⟩ = some (.slice plb nlb clb) := (CLv.2 2).1
      have lk0 : v5.cell? ⟨BK, 0, none⟩ = some (.int .i64 el) := (CK.2 0).1
      have lk1 : v5.cell? ⟨BK, 1, none⟩ = some (.slice pka2 nla cka2) := (CK.2 1).1
      have lk2 : v5.cell? ⟨BK, 2, none⟩ = some (.slice pkb2 nlb ckb2) := (CK.2 2).1
      have CSL := sameLetter_yes el pka2 pkb2 pla plb nla cka2 nlb ckb2 cla clb yla ylb v5 rla.len rlb.len rA.bytes rB.bytes rla.bytes rlb.bytes
      have lnb : (nlb : Int) ≤ 1516 := by omega
      go_wp2_with (rw [hv5.out])
      refine CSL.mono ?_
      rintro e v6 ⟨rfl, d6⟩
      have ll2' : v6.cell? ⟨BL, 2, none⟩ = some (.slice plb nlb clb) := ((CLv.on d6).2 2).1
      clear ll0 ll1 ll2 lk0 lk1 lk2 hv5 CSL
      go_wp2_with (fail)
      go_ret
      exact ⟨rfl, below_on kV5 d6⟩
    · have hN : NB = 0 := by rw [hNB.out, lbN, if_neg hok]
      simp only [decide_eq_false hok] at COK
      subst hN
      go_wp2_with (fail)
      refine (COK _).mono ?_
      rintro e v1 ⟨rfl, d1⟩
      go_wp2_with (fail)
      go_ret
      exact ⟨rfl, below_on kV d1⟩
  · obtain ⟨q1, q2, q3, q4, q5, q6⟩ := HX.out
    rw [decide_eq_false hX] at q6
    subst q6
    clear q1 q2 q3 q4 q5 HX hX
    have bdr : Below w14.heap.size w14 w14.drew := (Below.refl _ _).drew
    go_wp2_with (fail)
    refine wp_region_noPanic ?_
    refine wp_region_held_drew (S := fun w' => w'.cell? ⟨BL, 0, none⟩ = some (.int .i64 el) ∧ w'.cell? ⟨BL, 1, none⟩ = some (.slice pla nla cla) ∧ w'.cell? ⟨BL, 2, none⟩ = some (.slice plb nlb clb) ∧ w'.cell? ⟨BY, 0, none⟩ = some (.int .i64 EX) ∧ w'.cell? ⟨BY, 1, none⟩ = some (.slice pya NX cya) ∧ w'.cell? ⟨BY, 2, none⟩ = some (.slice pyb MX cyb) ∧ w'.cell? ⟨BZ, 0, none⟩ = some (.int .i64 EX) ∧ w'.cell? ⟨BZ, 1, none⟩ = some (.slice pza NX cza) ∧ w'.cell? ⟨BZ, 2, none⟩ = some (.slice pzb MX czb) ∧ w'.cell? ⟨BQ, 0, none⟩ = some (.int .i64 eq) ∧ w'.cell? ⟨BQ, 1, none⟩ = some (.slice pqa nqa cqa) ∧ w'.cell? ⟨BQ, 2, none⟩ = some (.slice pqb nqb cqb)) (by kernel_rfl) (HK _ (by repeat (with_reducible (first | exact Below.refl _ _ | refine below_drewL ?_ | refine below_on ?_ bq9 | refine below_on ?_ bq8 | refine below_on ?_ bq7 | refine below_on ?_ bq6 | refine below_on ?_ bq5 | refine below_on ?_ bq4 | refine below_on ?_ bq3 | refine below_on ?_ bq2 | refine below_on ?_ bq1)))) (fun hHeld => ?_)
    refine wpAnyH_take (i := 0) rfl (by kernel_rfl) (by kernel_rfl) (by kernel_rfl) (fun _ _ _ h => h) (Or.inl ⟨by rfl, fun X hSw => by ((try dsimp only at hSw); go_simp; try with_reducible rfl)⟩) hHeld ?_
    try simp only [Act.put, List.getElem_toArray, List.getElem_cons_zero, List.setIfInBounds_toArray, List.set_cons_zero, List.set_cons_succ]
    refine wpAnyH_take (i := 1) rfl (by kernel_rfl) (by kernel_rfl) (by kernel_rfl) (fun _ _ _ h => h) (Or.inl ⟨by rfl, fun X hSw => by ((try dsimp only at hSw); go_simp; try with_reducible rfl)⟩) hHeld ?_
    try simp only [Act.put, List.getElem_toArray, List.getElem_cons_zero, List.getElem_cons_succ, List.setIfInBounds_toArray, List.set_cons_zero, List.set_cons_succ]
    refine wpAnyH_ready (rs := [2]) (by kernel_rfl) (by simp) ?_
    refine AllReadyH.cons rfl (fun K hK => ?_) AllReadyH.nil
    go_simp
    refine (CLS _ (in_below rla.bytes (by repeat (with_reducible (first | exact Below.refl _ _ | refine below_drewL ?_ | refine below_on ?_ bq9 | refine below_on ?_ bq8 | refine below_on ?_ bq7 | refine below_on ?_ bq6 | refine below_on ?_ bq5 | refine below_on ?_ bq4 | refine below_on ?_ bq3 | refine below_on ?_ bq2 | refine below_on ?_ bq1)))) (in_below rlb.bytes (by repeat (with_reducible (first | exact Below.refl _ _ | refine below_drewL ?_ | refine below_on ?_ bq9 | refine below_on ?_ bq8 | refine below_on ?_ bq7 | refine below_on ?_ bq6 | refine below_on ?_ bq5 | refine below_on ?_ bq4 | refine below_on ?_ bq3 | refine below_on ?_ bq2 | refine below_on ?_ bq1))))).mono ?_
    rintro z wq1 ⟨pq, cq, rfl, rq, bq1⟩
    go_wp2_with (fail)
    refine hK.out _ _ (HK _ (by repeat (with_reducible (first | exact Below.refl _ _ | refine below_drewL ?_ | refine below_on ?_ bq9 | refine below_on ?_ bq8 | refine below_on ?_ bq7 | refine below_on ?_ bq6 | refine below_on ?_ bq5 | refine below_on ?_ bq4 | refine below_on ?_ bq3 | refine below_on ?_ bq2 | refine below_on ?_ bq1)))) (fun hHeld => ?_)
    clear hK K
    try simp only [Act.put, List.getElem_toArray, List.getElem_cons_zero, List.getElem_cons_succ, List.setIfInBounds_toArray, List.set_cons_zero, List.set_cons_succ]
    refine wpAnyH_ready (rs := [3]) (by kernel_rfl) (by simp) ?_
    refine AllReadyH.cons rfl (fun K hK => ?_) AllReadyH.nil
    go_simp
    refine (implSame_any pr1 pq NB NB cr1 cq LB LB _ r1.len rq.len (in_below r1.bytes (by repeat (with_reducible (first | exact Below.refl _ _ | refine below_drewL ?_ | refine below_on ?_ bq9 | refine below_on ?_ bq8 | refine below_on ?_ bq7 | refine below_on ?_ bq6 | refine below_on ?_ bq5 | refine below_on ?_ bq4 | refine below_on ?_ bq3 | refine below_on ?_ bq2 | refine below_on ?_ bq1)))) (in_below rq.bytes (by repeat (with_reducible (first | exact Below.refl _ _ | refine below_drewL ?_ | refine below_on ?_ bq9 | refine below_on ?_ bq8 | refine below_on ?_ bq7 | refine below_on ?_ bq6 | refine below_on ?_ bq5 | refine below_on ?_ bq4 | refine below_on ?_ bq3 | refine below_on ?_ bq2 | refine below_on ?_ bq1))))).mono ?_
    rintro z wq2 ⟨rfl, bq2⟩
    go_wp2_with (fail)
    refine hK.out _ _ (HK _ (by repeat (with_reducible (first | exact Below.refl _ _ | refine below_drewL ?_ | refine below_on ?_ bq9 | refine below_on ?_ bq8 | refine below_on ?_ bq7 | refine below_on ?_ bq6 | refine below_on ?_ bq5 | refine below_on ?_ bq4 | refine below_on ?_ bq3 | refine below_on ?_ bq2 | refine below_on ?_ bq1)))) (fun hHeld => ?_)
    clear hK K
    try simp only [Act.put, List.getElem_toArray, List.getElem_cons_zero, List.getElem_cons_succ, List.setIfInBounds_toArray, List.set_cons_zero, List.set_cons_succ]
    refine wpAnyH_take (i := 4) rfl (by kernel_rfl) (by kernel_rfl) (by kernel_rfl) (fun _ _ _ h => h) (Or.inl ⟨by rfl, fun X hSw => by ((try dsimp only at hSw); go_simp; try with_reducible rfl)⟩) hHeld ?_
    try simp only [Act.put, List.getElem_toArray, List.getElem_cons_zero, List.getElem_cons_succ, List.setIfInBounds_toArray, List.set_cons_zero, List.set_cons_succ]
    refine wpAnyH_take (i := 5) rfl (by kernel_rfl) (by kernel_rfl) (by kernel_rfl) (fun _ _ _ h => h) (Or.inl ⟨by rfl, fun X hSw => by ((try dsimp only at hSw); go_simp; try with_reducible rfl)⟩) hHeld ?_
    try simp only [Act.put, List.getElem_toArray, List.getElem_cons_zero, List.getElem_cons_succ, List.setIfInBounds_toArray, List.set_cons_zero, List.set_cons_succ]
    refine wpAnyH_take (i := 6) rfl (by kernel_rfl) (by kernel_rfl) (by kernel_rfl) (fun _ _ _ h => h) (Or.inl ⟨by rfl, fun X hSw => by ((try dsimp only at hSw); go_simp; try with_reducible rfl)⟩) hHeld ?_
    try simp only [Act.put, List.getElem_toArray, List.getElem_cons_zero, List.getElem_cons_succ, List.setIfInBounds_toArray, List.set_cons_zero, List.set_cons_succ]
    refine wpAnyH_take (i := 7) rfl (by kernel_rfl) (by kernel_rfl) (by kernel_rfl) (fun _ _ _ h => h) (Or.inl ⟨by rfl, fun X hSw => by ((try dsimp only at hSw); go_simp; try with_reducible rfl)⟩) hHeld ?_
    try simp only [Act.put, List.getElem_toArray, List.getElem_cons_zero, List.getElem_cons_succ, List.setIfInBounds_toArray, List.set_cons_zero, List.set_cons_succ]
    refine wpAnyH_take (i := 8) rfl (by kernel_rfl) (by kernel_rfl) (by kernel_rfl) (fun _ _ _ h => h) (Or.inl ⟨by rfl, fun X hSw => by ((try dsimp only at hSw); go_simp; try with_reducible rfl)⟩) hHeld ?_
    try simp only [Act.put, List.getElem_toArray, List.getElem_cons_zero, List.getElem_cons_succ, List.setIfInBounds_toArray, List.set_cons_zero, List.set_cons_succ]
    refine wpAnyH_take (i := 9) rfl (by kernel_rfl) (by kernel_rfl) (by kernel_rfl) (fun _ _ _ h => h) (Or.inl ⟨by rfl, fun X hSw => by ((try dsimp only at hSw); go_simp; try with_reducible rfl)⟩) hHeld ?_
    try simp only [Act.put, List.getElem_toArray, List.getElem_cons_zero, List.getElem_cons_succ, List.setIfInBounds_toArray, List.set_cons_zero, List.set_cons_succ]
    refine wpAnyH_take (i := 10) rfl (by kernel_rfl) (by kernel_rfl) (by kernel_rfl) (fun _ _ _ h => h) (Or.inl ⟨by rfl, fun X hSw => by ((try dsimp only at hSw); go_simp; try with_reducible rfl)⟩) hHeld ?_
    try simp only [Act.put, List.getElem_toArray, List.getElem_cons_zero, List.getElem_cons_succ, List.setIfInBounds_toArray, List.set_cons_zero, List.set_cons_succ]
    refine wpAnyH_take (i := 11) rfl (by kernel_rfl) (by kernel_rfl) (by kernel_rfl) (fun _ _ _ h => h) (Or.inl ⟨by rfl, fun X hSw => by ((try dsimp only at hSw); go_simp; try with_reducible rfl)⟩) hHeld ?_
    try simp only [Act.put, List.getElem_toArray, List.getElem_cons_zero, List.getElem_cons_succ, List.setIfInBounds_toArray, List.set_cons_zero, List.set_cons_succ]
    refine wpAnyH_take (i := 12) rfl (by kernel_rfl) (by kernel_rfl) (by kernel_rfl) (fun _ _ _ h => h) (Or.inl ⟨by rfl, fun X hSw => by ((try dsimp only at hSw); go_simp; try with_reducible rfl)⟩) hHeld ?_
    try simp only [Act.put, List.getElem_toArray, List.getElem_cons_zero, List.getElem_cons_succ, List.setIfInBounds_toArray, List.set_cons_zero, List.set_cons_succ]
    refine wpAnyH_ready (rs := [13]) (by kernel_rfl) (by simp) ?_
    refine AllReadyH.cons rfl (fun K hK => ?_) AllReadyH.nil
    go_simp
    refine (sameLetter_yes EX pya pyb pza pzb NX cya MX cyb cza czb XX YX _ rya.len ryb.len (in_below rya.bytes (by repeat (with_reducible (first | exact Below.refl _ _ | refine below_drewL ?_ | refine below_on ?_ bq9 | refine below_on ?_ bq8 | refine below_on ?_ bq7 | refine below_on ?_ bq6 | refine below_on ?_ bq5 | refine below_on ?_ bq4 | refine below_on ?_ bq3 | refine below_on ?_ bq2 | refine below_on ?_ bq1)))) (in_below ryb.bytes (by repeat (with_reducible (first | exact Below.refl _ _ | refine below_drewL ?_ | refine below_on ?_ bq9 | refine below_on ?_ bq8 | refine below_on ?_ bq7 | refine below_on ?_ bq6 | refine below_on ?_ bq5 | refine below_on ?_ bq4 | refine below_on ?_ bq3 | refine below_on ?_ bq2 | refine below_on ?_ bq1)))) (in_below rza.bytes (by repeat (with_reducible (first | exact Below.refl _ _ | refine below_drewL ?_ | refine below_on ?_ bq9 | refine below_on ?_ bq8 | refine below_on ?_ bq7 | refine below_on ?_ bq6 | refine below_on ?_ bq5 | refine below_on ?_ bq4 | refine below_on ?_ bq3 | refine below_on ?_ bq2 | refine below_on ?_ bq1)))) (in_below rzb.bytes (by repeat (with_reducible (first | exact Below.refl _ _ | refine below_drewL ?_ | refine below_on ?_ bq9 | refine below_on ?_ bq8 | refine below_on ?_ bq7 | refine below_on ?_ bq6 | refine below_on ?_ bq5 | refine below_on ?_ bq4 | refine below_on ?_ bq3 | refine below_on ?_ bq2 | refine below_on ?_ bq1))))).mono ?_
    rintro z wq3 ⟨rfl, bq3⟩
    go_wp2_with (fail)
    refine hK.out _ _ (HK _ (by repeat (with_reducible (first | exact Below.refl _ _ | refine below_drewL ?_ | refine below_on ?_ bq9 | refine below_on ?_ bq8 | refine below_on ?_ bq7 | refine below_on ?_ bq6 | refine below_on ?_ bq5 | refine below_on ?_ bq4 | refine below_on ?_ bq3 | refine below_on ?_ bq2 | refine below_on ?_ bq1)))) (fun hHeld => ?_)
    clear hK K
    try simp only [Act.put, List.getElem_toArray, List.getElem_cons_zero, List.getElem_cons_succ, List.setIfInBounds_toArray, List.set_cons_zero, List.set_cons_succ]
    refine wpAnyH_take (i := 14) rfl (by kernel_rfl) (by kernel_rfl) (by kernel_rfl) (fun _ _ _ h => h) (Or.inl ⟨by rfl, fun X hSw => by ((try dsimp only at hSw); go_simp; try with_reducible rfl)⟩) hHeld ?_
    try simp only [Act.put, List.getElem_toArray, List.getElem_cons_zero, List.getElem_cons_succ, List.setIfInBounds_toArray, List.set_cons_zero, List.set_cons_succ]
    refine wpAnyH_take (i := 15) rfl (by kernel_rfl) (by kernel_rfl) (by kernel_rfl) (fun _ _ _ h => h) (Or.inl ⟨by rfl, fun X hSw => by ((try dsimp only at hSw); go_simp; try with_reducible rfl)⟩) hHeld ?_
    try simp only [Act.put, List.getElem_toArray, List.getElem_cons_zero, List.getElem_cons_succ, List.setIfInBounds_toArray, List.set_cons_zero, List.set_cons_succ]
    refine wpAnyH_take (i := 16) rfl (by kernel_rfl) (by kernel_rfl) (by kernel_rfl) (fun _ _ _ h => h) (Or.inl ⟨by rfl, fun X hSw => by ((try dsimp only at hSw); go_simp; try with_reducible rfl)⟩) hHeld ?_
    try simp only [Act.put, List.getElem_toArray, List.getElem_cons_zero, List.getElem_cons_succ, List.setIfInBounds_toArray, List.set_cons_zero, List.set_cons_succ]
    refine wpAnyH_take (i := 17) rfl (by kernel_rfl) (by kernel_rfl) (by kernel_rfl) (fun _ _ _ h => h) (Or.inl ⟨by rfl, fun X hSw => by ((try dsimp only at hSw); go_simp; try with_reducible rfl)⟩) hHeld ?_
    try simp only [Act.put, List.getElem_toArray, List.getElem_cons_zero, List.getElem_cons_succ, List.setIfInBounds_toArray, List.set_cons_zero, List.set_cons_succ]
    refine wpAnyH_take (i := 18) rfl (by kernel_rfl) (by kernel_rfl) (by kernel_rfl) (fun _ _ _ h => h) (Or.inl ⟨by rfl, fun X hSw => by ((try dsimp only at hSw); go_simp; try with_reducible rfl)⟩) hHeld ?_
    try simp only [Act.put, List.getElem_toArray, List.getElem_cons_zero, List.getElem_cons_succ, List.setIfInBounds_toArray, List.set_cons_zero, List.set_cons_succ]
    refine wpAnyH_ready (rs := [19]) (by kernel_rfl) (by simp) ?_
    refine AllReadyH.cons rfl (fun K hK => ?_) AllReadyH.nil
    go_simp
    refine (implSame_any pka poa 32 32 cka coa KL KL _ rka.len roa.len (in_below rka.bytes (by repeat (with_reducible (first | exact Below.refl _ _ | refine below_drewL ?_ | refine below_on ?_ bq9 | refine below_on ?_ bq8 | refine below_on ?_ bq7 | refine below_on ?_ bq6 | refine below_on ?_ bq5 | refine below_on ?_ bq4 | refine below_on ?_ bq3 | refine below_on ?_ bq2 | refine below_on ?_ bq1)))) (in_below roa.bytes (by repeat (with_reducible (first | exact Below.refl _ _ | refine below_drewL ?_ | refine below_on ?_ bq9 | refine below_on ?_ bq8 | refine below_on ?_ bq7 | refine below_on ?_ bq6 | refine below_on ?_ bq5 | refine below_on ?_ bq4 | refine below_on ?_ bq3 | refine below_on ?_ bq2 | refine below_on ?_ bq1))))).mono ?_
    rintro z wq4 ⟨rfl, bq4⟩
    go_wp2_with (fail)
    refine hK.out _ _ (HK _ (by repeat (with_reducible (first | exact Below.refl _ _ | refine below_drewL ?_ | refine below_on ?_ bq9 | refine below_on ?_ bq8 | refine below_on ?_ bq7 | refine below_on ?_ bq6 | refine below_on ?_ bq5 | refine below_on ?_ bq4 | refine below_on ?_ bq3 | refine below_on ?_ bq2 | refine below_on ?_ bq1)))) (fun hHeld => ?_)
    clear hK K
    try simp only [Act.put, List.getElem_toArray, List.getElem_cons_zero, List.getElem_cons_succ, List.setIfInBounds_toArray, List.set_cons_zero, List.set_cons_succ]
    refine wpAnyH_take (i := 20) rfl (by kernel_rfl) (by kernel_rfl) (by kernel_rfl) (fun _ _ _ h => h) (Or.inl ⟨by rfl, fun X hSw => by ((try dsimp only at hSw); go_simp; try with_reducible rfl)⟩) hHeld ?_
    try simp only [Act.put, List.getElem_toArray, List.getElem_cons_zero, List.getElem_cons_succ, List.setIfInBounds_toArray, List.set_cons_zero, List.set_cons_succ]
    refine wpAnyH_take (i := 21) rfl (by kernel_rfl) (by kernel_rfl) (by kernel_rfl) (fun _ _ _ h => h) (Or.inl ⟨by rfl, fun X hSw => by ((try dsimp only at hSw); go_simp; try with_reducible rfl)⟩) hHeld ?_
    try simp only [Act.put, List.getElem_toArray, List.getElem_cons_zero, List.getElem_cons_succ, List.setIfInBounds_toArray, List.set_cons_zero, List.set_cons_succ]
    refine wpAnyH_take (i := 22) rfl (by kernel_rfl) (by kernel_rfl) (by kernel_rfl) (fun _ _ _ h => h) (Or.inl ⟨by rfl, fun X hSw => by ((try dsimp only at hSw); go_simp; try with_reducible rfl)⟩) hHeld ?_
    try simp only [Act.put, List.getElem_toArray, List.getElem_cons_zero, List.getElem_cons_succ, List.setIfInBounds_toArray, List.set_cons_zero, List.set_cons_succ]
    refine wpAnyH_take (i := 23) rfl (by kernel_rfl) (by kernel_rfl) (by kernel_rfl) (fun _ _ _ h => h) (Or.inl ⟨by rfl, fun X hSw => by ((try dsimp only at hSw); go_simp; try with_reducible rfl)⟩) hHeld ?_
    try simp only [Act.put, List.getElem_toArray, List.getElem_cons_zero, List.getElem_cons_succ, List.setIfInBounds_toArray, List.set_cons_zero, List.set_cons_succ]
    refine wpAnyH_take (i := 24) rfl (by kernel_rfl) (by kernel_rfl) (by kernel_rfl) (fun _ _ _ h => h) (Or.inl ⟨by rfl, fun X hSw => by ((try dsimp only at hSw); go_simp; try with_reducible rfl)⟩) hHeld ?_
    try simp only [Act.put, List.getElem_toArray, List.getElem_cons_zero, List.getElem_cons_succ, List.setIfInBounds_toArray, List.set_cons_zero, List.set_cons_succ]
    refine wpAnyH_ready (rs := [25]) (by kernel_rfl) (by simp) ?_
    refine AllReadyH.cons rfl (fun K hK => ?_) AllReadyH.nil
    go_simp
    refine (implSame_any pkb pob 12 12 ckb cob QL QL _ rkb.len rob.len (in_below rkb.bytes (by repeat (with_reducible (first | exact Below.refl _ _ | refine below_drewL ?_ | refine below_on ?_ bq9 | refine below_on ?_ bq8 | refine below_on ?_ bq7 | refine below_on ?_ bq6 | refine below_on ?_ bq5 | refine below_on ?_ bq4 | refine below_on ?_ bq3 | refine below_on ?_ bq2 | refine below_on ?_ bq1)))) (in_below rob.bytes (by repeat (with_reducible (first | exact Below.refl _ _ | refine below_drewL ?_ | refine below_on ?_ bq9 | refine below_on ?_ bq8 | refine below_on ?_ bq7 | refine below_on ?_ bq6 | refine below_on ?_ bq5 | refine below_on ?_ bq4 | refine below_on ?_ bq3 | refine below_on ?_ bq2 | refine below_on ?_ bq1))))).mono ?_
    rintro z wq5 ⟨rfl, bq5⟩
    go_wp2_with (fail)
    refine hK.out _ _ (HK _ (by repeat (with_reducible (first | exact Below.refl _ _ | refine below_drewL ?_ | refine below_on ?_ bq9 | refine below_on ?_ bq8 | refine below_on ?_ bq7 | refine below_on ?_ bq6 | refine below_on ?_ bq5 | refine below_on ?_ bq4 | refine below_on ?_ bq3 | refine below_on ?_ bq2 | refine below_on ?_ bq1)))) (fun hHeld => ?_)
    clear hK K
    try simp only [Act.put, List.getElem_toArray, List.getElem_cons_zero, List.getElem_cons_succ, List.setIfInBounds_toArray, List.set_cons_zero, List.set_cons_succ]
    refine wpAnyH_take (i := 26) rfl (by kernel_rfl) (by kernel_rfl) (by kernel_rfl) (fun _ _ _ h => h) (Or.inl ⟨by rfl, fun X hSw => by ((try dsimp only at hSw); go_simp; try with_reducible rfl)⟩) hHeld ?_
    try simp only [Act.put, List.getElem_toArray, List.getElem_cons_zero, List.getElem_cons_succ, List.setIfInBounds_toArray, List.set_cons_zero, List.set_cons_succ]
    refine wpAnyH_take (i := 27) rfl (by kernel_rfl) (by kernel_rfl) (by kernel_rfl) (fun _ _ _ h => h) (Or.inl ⟨by rfl, fun X hSw => by ((try dsimp only at hSw); go_simp; try with_reducible rfl)⟩) hHeld ?_
    try simp only [Act.put, List.getElem_toArray, List.getElem_cons_zero, List.getElem_cons_succ, List.setIfInBounds_toArray, List.set_cons_zero, List.set_cons_succ]
    refine wpAnyH_take (i := 28) rfl (by kernel_rfl) (by kernel_rfl) (by kernel_rfl) (fun _ _ _ h => h) (Or.inl ⟨by rfl, fun X hSw => by ((try dsimp only at hSw); go_simp; try with_reducible rfl)⟩) hHeld ?_
    try simp only [Act.put, List.getElem_toArray, List.getElem_cons_zero, List.getElem_cons_succ, List.setIfInBounds_toArray, List.set_cons_zero, List.set_cons_succ]
    refine wpAnyH_take (i := 29) rfl (by kernel_rfl) (by kernel_rfl) (by kernel_rfl) (fun _ _ _ h => h) (Or.inl ⟨by rfl, fun X hSw => by ((try dsimp only at hSw); go_simp; try with_reducible rfl)⟩) hHeld ?_
    try simp only [Act.put, List.getElem_toArray, List.getElem_cons_zero, List.getElem_cons_succ, List.setIfInBounds_toArray, List.set_cons_zero, List.set_cons_succ]
    refine wpAnyH_take (i := 31) rfl (by kernel_rfl) (by kernel_rfl) (by kernel_rfl) (fun _ _ _ h => h) (Or.inl ⟨by rfl, fun X hSw => by ((try dsimp only at hSw); go_simp; try with_reducible rfl)⟩) hHeld ?_
    try simp only [Act.put, List.getElem_toArray, List.getElem_cons_zero, List.getElem_cons_succ, List.setIfInBounds_toArray, List.set_cons_zero, List.set_cons_succ]
    refine wpAnyH_ready (rs := [30]) (by kernel_rfl) (by simp) ?_
    refine AllReadyH.cons rfl (fun K hK => ?_) AllReadyH.nil
    go_simp
    refine (CQI _).mono ?_
    rintro z wq6 ⟨rfl, bq6⟩
    go_wp2_with (fail)
    refine hK.out _ _ (HK _ (by repeat (with_reducible (first | exact Below.refl _ _ | refine below_drewL ?_ | refine below_on ?_ bq9 | refine below_on ?_ bq8 | refine below_on ?_ bq7 | refine below_on ?_ bq6 | refine below_on ?_ bq5 | refine below_on ?_ bq4 | refine below_on ?_ bq3 | refine below_on ?_ bq2 | refine below_on ?_ bq1)))) (fun hHeld => ?_)
    clear hK K
    try simp only [Act.put, List.getElem_toArray, List.getElem_cons_zero, List.getElem_cons_succ, List.setIfInBounds_toArray, List.set_cons_zero, List.set_cons_succ]
    refine wpAnyH_ready (rs := [32]) (by kernel_rfl) (by simp) ?_
    refine AllReadyH.cons rfl (fun K hK => ?_) AllReadyH.nil
    go_simp
    refine (CQS _).mono ?_
    rintro z wq7 ⟨rfl, bq7⟩
    go_wp2_with (fail)
    refine hK.out _ _ (HK _ (by repeat (with_reducible (first | exact Below.refl _ _ | refine below_drewL ?_ | refine below_on ?_ bq9 | refine below_on ?_ bq8 | refine below_on ?_ bq7 | refine below_on ?_ bq6 | refine below_on ?_ bq5 | refine below_on ?_ bq4 | refine below_on ?_ bq3 | refine below_on ?_ bq2 | refine below_on ?_ bq1)))) (fun hHeld => ?_)
    clear hK K
    try simp only [Act.put, List.getElem_toArray, List.getElem_cons_zero, List.getElem_cons_succ, List.setIfInBounds_toArray, List.set_cons_zero, List.set_cons_succ]
    refine wpAnyH_take (i := 33) rfl (by kernel_rfl) (by kernel_rfl) (by kernel_rfl) (fun _ _ _ h => h) (Or.inl ⟨by rfl, fun X hSw => by ((try dsimp only at hSw); go_simp; try with_reducible rfl)⟩) hHeld ?_
    try simp only [Act.put, List.getElem_toArray, List.getElem_cons_zero, List.getElem_cons_succ, List.setIfInBounds_toArray, List.set_cons_zero, List.set_cons_succ]
    refine wpAnyH_take (i := 34) rfl (by kernel_rfl) (by kernel_rfl) (by kernel_rfl) (fun _ _ _ h => h) (Or.inl ⟨by rfl, fun X hSw => by ((try dsimp only at hSw); go_simp; try with_reducible rfl)⟩) hHeld ?_
    try simp only [Act.put, List.getElem_toArray, List.getElem_cons_zero, List.getElem_cons_succ, List.setIfInBounds_toArray, List.set_cons_zero, List.set_cons_succ]
    refine wpAnyH_take (i := 35) rfl (by kernel_rfl) (by kernel_rfl) (by kernel_rfl) (fun _ _ _ h => h) (Or.inl ⟨by rfl, fun X hSw => by ((try dsimp only at hSw); go_simp; try with_reducible rfl)⟩) hHeld ?_
    try simp only [Act.put, List.getElem_toArray, List.getElem_cons_zero, List.getElem_cons_succ, List.setIfInBounds_toArray, List.set_cons_zero, List.set_cons_succ]
    refine wpAnyH_take (i := 36) rfl (by kernel_rfl) (by kernel_rfl) (by kernel_rfl) (fun _ _ _ h => h) (Or.inl ⟨by rfl, fun X hSw => by ((try dsimp only at hSw); go_simp; try with_reducible rfl)⟩) hHeld ?_
    try simp only [Act.put, List.getElem_toArray, List.getElem_cons_zero, List.getElem_cons_succ, List.setIfInBounds_toArray, List.set_cons_zero, List.set_cons_succ]
    refine wpAnyH_take (i := 37) rfl (by kernel_rfl) (by kernel_rfl) (by kernel_rfl) (fun _ _ _ h => h) (Or.inl ⟨by rfl, fun X hSw => by ((try dsimp only at hSw); go_simp; try with_reducible rfl)⟩) hHeld ?_
    try simp only [Act.put, List.getElem_toArray, List.getElem_cons_zero, List.getElem_cons_succ, List.setIfInBounds_toArray, List.set_cons_zero, List.set_cons_succ]
    refine wpAnyH_take (i := 38) (v := undef) rfl (by kernel_rfl) (by kernel_rfl) (by kernel_rfl) (fun _ _ _ h => h) (Or.inr ⟨by rfl, rfl⟩) hHeld ?_
    try simp only [Act.put, List.getElem_toArray, List.getElem_cons_zero, List.getElem_cons_succ, List.setIfInBounds_toArray, List.set_cons_zero, List.set_cons_succ]
    refine wpAnyH_take (i := 40) (v := undef) rfl (by kernel_rfl) (by kernel_rfl) (by kernel_rfl) (fun _ _ _ h => h) (Or.inr ⟨by rfl, rfl⟩) hHeld ?_
    try simp only [Act.put, List.getElem_toArray, List.getElem_cons_zero, List.getElem_cons_succ, List.setIfInBounds_toArray, List.set_cons_zero, List.set_cons_succ]
    refine wpAnyH_take (i := 39) (v := undef) rfl (by kernel_rfl) (by kernel_rfl) (by kernel_rfl) (fun _ _ _ h => h) (Or.inr ⟨by rfl, rfl⟩) hHeld ?_
    try simp only [Act.put, List.getElem_toArray, List.getElem_cons_zero, List.getElem_cons_succ, List.setIfInBounds_toArray, List.set_cons_zero, List.set_cons_succ]
    refine wpAnyH_take (i := 41) (v := undef) rfl (by kernel_rfl) (by kernel_rfl) (by kernel_rfl) (fun _ _ _ h => h) (Or.inr ⟨by rfl, rfl⟩) hHeld ?_
    try simp only [Act.put, List.getElem_toArray, List.getElem_cons_zero, List.getElem_cons_succ, List.setIfInBounds_toArray, List.set_cons_zero, List.set_cons_succ]
    refine wpAnyH_take (i := 42) (v := undef) rfl (by kernel_rfl) (by kernel_rfl) (by kernel_rfl) (fun _ _ _ h => h) (Or.inr ⟨by rfl, rfl⟩) hHeld ?_
    try simp only [Act.put, List.getElem_toArray, List.getElem_cons_zero, List.getElem_cons_succ, List.setIfInBounds_toArray, List.set_cons_zero, List.set_cons_succ]
    refine wpAnyH_take (i := 43) rfl (by kernel_rfl) (by kernel_rfl) (by kernel_rfl) (fun _ _ _ h => h) (Or.inl ⟨by rfl, fun X hSw => by ((try dsimp only at hSw); go_simp; try with_reducible rfl)⟩) hHeld ?_
    try simp only [Act.put, List.getElem_toArray, List.getElem_cons_zero, List.getElem_cons_succ, List.setIfInBounds_toArray, List.set_cons_zero, List.set_cons_succ]
    refine wpAnyH_take (i := 44) rfl (by kernel_rfl) (by kernel_rfl) (by kernel_rfl) (fun _ _ _ h => h) (Or.inl ⟨by rfl, fun X hSw => by ((try dsimp only at hSw); go_simp; try with_reducible rfl)⟩) hHeld ?_
    try simp only [Act.put, List.getElem_toArray, List.getElem_cons_zero, List.getElem_cons_succ, List.setIfInBounds_toArray, List.set_cons_zero, List.set_cons_succ]
    refine wpAnyH_done (by kernel_rfl) ?_ _
    refine NoPanic.normal ?_
    have bV : Below w14.heap.size w14 wq7 := below_on (below_on (below_on (below_on (below_on (below_on (below_on bdr bq1) bq2) bq3) bq4) bq5) bq6) bq7
    have kV := below_on k14 bV
    have CLv := CL.on bV
    replace rla := rla.on bV
    replace rlb := rlb.on bV
    replace r1 := r1.on bV
    have ll0 : wq7.cell? ⟨BL, 0, none⟩ = some (.int .i64 el) := (CLv.2 0).1
    have ll1 : wq7.cell? ⟨BL, 1, none⟩ = some (.slice pla nla cla) := (CLv.2 1).1
    have ll2 : wq7.cell? ⟨BL, 2, none⟩ = some (.slice plb nlb clb) := (CLv.2 2).1
    have COK := fun X => implLetterOk_any el pla plb nla cla nlb clb X (by omega)
    clear HK CLS CQI CQS CLY bdr
    by_cases hok : letOk el nla nlb
    · have hok' : letOk el yla.length ylb.length := by rw [rla.len, rlb.len]; exact hok
      have hlo := lo_of_lb hok'
      have hN : NB = 35 + nlb := by rw [hNB.out, lbN, if_pos hok]
      have hm16 : 16 ≤ nlb ∧ nlb ≤ 1516 := ⟨hok.2.2.2.1, hok.2.2.2.2⟩
      have hbB : ∀ y ∈ LB, 0 ≤ y ∧ y < 256 := by rw [hLB.out]; exact lbL_byte hyla hylb
      rw [← hLB.out, rla.len, rlb.len] at hlo
      obtain ⟨h1, h2, h3, h4, h5, h6⟩ := hlo
      simp only [decide_eq_true hok] at COK
      have hcapB := r1.cap
      have CB := fun X (hX : BytesIn X pr1 NB LB) => implLetterOf_any pr1 NB cr1 LB X (by omega) r1.len hX hbB hcapB
      simp only [h2, h3, h4, h5, h6, decide_eq_true h1] at CB
      have rt := r1.take (k := 40) (by omega)
      have hs := lo_short (bs := LB.take 40) (by rw [List.length_take]; omega)
      have hbT : ∀ y ∈ LB.take 40, 0 ≤ y ∧ y < 256 := fun y hy => hbB y (List.mem_of_mem_take hy)
      have CT := fun X (hX : BytesIn X pr1 40 (LB.take 40)) => implLetterOf_any pr1 40 cr1 (LB.take 40) X (by omega) rt.len hX hbT (by omega)
      simp only [hs.2.1, hs.2.2.1, hs.2.2.2.1, hs.2.2.2.2.1, hs.2.2.2.2.2, decide_eq_false hs.1] at CT
      have sl := fun X => slice_to pr1 NB cr1 40 (by omega) (fun h => own_nil rt h) X
      have e35 : 35 + (nlb : Int) = (NB : Int) := by omega
      clear h1 h2 h3 h4 h5 h6 hs hbB hbT hok' hok hyla hylb hN
      go_wp2_with (fail)
      refine (COK _).mono ?_
      rintro e v1 ⟨rfl, d1⟩
      replace CLv := CLv.on d1
      replace rla := rla.on d1
      replace rlb := rlb.on d1
      replace rt := rt.on d1
      replace r1 := r1.on d1
      have kV1 := below_on kV d1
      clear ll0 ll1 ll2 COK
      go_wp2_with (fail)
      refine (CB _ r1.bytes).mono ?_
      rintro e v2 ⟨pka2, cka2, pkb2, ckb2, rfl, ⟨_, _, _, _, rA, rB, _, _, _⟩, d2⟩
      replace CLv := CLv.on d2
      replace rla := rla.on d2
      replace rlb := rlb.on d2
      replace rt := rt.on d2
      have kV2 := below_on kV1 d2
      clear CB r1
      obtain ⟨v3, hv3⟩ : ∃ X, X = v2.alloc (.cells #[.int .i64 el, .slice pka2 nla cka2, .slice pkb2 nlb ckb2] 31) := ⟨_, rfl⟩
      have d3 : Below v2.heap.size v2 v3 := by rw [hv3]; exact made_below _ _ (Below.refl _ _)
      have CK : Cells v3 v2.heap.size #[.int .i64 el, .slice pka2 nla cka2, .slice pkb2 nlb ckb2] := by rw [hv3]; exact Cells.made _ _ _
      replace CLv := CLv.on d3
      replace rla := rla.on d3
      replace rlb := rlb.on d3
      replace rt := rt.on d3
      replace rA := rA.on d3
      replace rB := rB.on d3
      have kV3 := below_on kV2 d3
      replace hv3 : Hid (v2.alloc (.cells #[.int .i64 el, .slice pka2 nla cka2, .slice pkb2 nlb ckb2] 31) = v3) := hv3.symm
      go_wp2_with (rw [hv3.out])
      clear hv3
      obtain ⟨BK, hBK⟩ : ∃ X, X = v2.heap.size := ⟨_, rfl⟩
      rw [← hBK] at CK ⊢
      clear hBK
      refine (CT _ rt.bytes).mono ?_
      rintro e v4 ⟨pc1, cc1, pc2, cc2, rfl, _, d4⟩
      replace CLv := CLv.on d4
      replace rla := rla.on d4
      replace rlb := rlb.on d4
      replace rA := rA.on d4
      replace rB := rB.on d4
      replace CK := CK.on d4
      have kV4 := below_on kV3 d4
      clear CT rt
      obtain ⟨v5, hv5⟩ : ∃ X, X = v4.alloc (.cells #[.int .i64 0, .slice pc1 0 cc1, .slice pc2 0 cc2] 31) := ⟨_, rfl⟩
      have d5 : Below v4.heap.size v4 v5 := by rw [hv5]; exact made_below _ _ (Below.refl _ _)
      replace CLv := CLv.on d5
      replace rla := rla.on d5
      replace rlb := rlb.on d5
      replace rA := rA.on d5
      replace rB := rB.on d5
      replace CK := CK.on d5
      have kV5 := below_on kV4 d5
      replace hv5 : Hid (v4.alloc (.cells #[.int .i64 0, .slice pc1 0 cc1, .slice pc2 0 cc2] 31) = v5) := hv5.symm
      have ll0 : v5.cell? ⟨BL, 0, none⟩ = some (.int .i64 el) := (CLv.2 0).1
      have ll1 : v5.cell? ⟨BL, 1, none⟩ = some (.slice pla nla cla) := (CLv.2 1).1
      have ll2 : v5.cell? ⟨BL, 2, none⟩ = some (.slice plb nlb clb) := (CLv.2 2).1
      have lk0 : v5.cell? ⟨BK, 0, none⟩ = some (.int .i64 el) := (CK.2 0).1
      have lk1 : v5.cell? ⟨BK, 1, none⟩ = some (.slice pka2 nla cka2) := (CK.2 1).1
      have lk2 : v5.cell? ⟨BK, 2, none⟩ = some (.slice pkb2 nlb ckb2) := (CK.2 2).1
      have CSL := sameLetter_yes el pka2 pkb2 pla plb nla cka2 nlb ckb2 cla clb yla ylb v5 rla.len rlb.len rA.bytes rB.bytes rla.bytes rlb.bytes
      have lnb : (nlb : Int) ≤ 1516 := by omega
      go_wp2_with (rw [hv5.out])
      refine CSL.mono ?_
      rintro e v6 ⟨rfl, d6⟩
      have ll2' : v6.cell? ⟨BL, 2, none⟩ = some (.slice plb nlb clb) := ((CLv.on d6).2 2).1
      clear ll0 ll1 ll2 lk0 lk1 lk2 hv5 CSL
      go_wp2_with (fail)
      go_ret
      exact ⟨rfl, below_on kV5 d6⟩
    · have hN : NB = 0 := by rw [hNB.out, lbN, if_neg hok]
      simp only [decide_eq_false hok] at COK
      subst hN
      go_wp2_with (fail)
      refine (COK _).mono ?_
      rintro e v1 ⟨rfl, d1⟩
      go_wp2_with (fail)
      go_ret
      exact ⟨rfl, below_on kV d1⟩

theorem fnLetters_law (p : Option Addr) (n c : Nat) (xs : List Int) (w : World) (hx : xs.length = n) (h : BytesIn w p n xs) (hb : ∀ x ∈ xs, 0 ≤ x ∧ x < 256) (hK : KeysIs w) :
    Calls Tryd.prog 5 #[.slice p n c] w fun e w' => e = .returned (.bool true) ∧ Below w.heap.size w w' := by
  by_cases hn : n ≤ 1048576
  · exact fnLetters_small p n c xs w hn hx h hb hK
  · clear hx h hb hK
    have C := fun X => big_great p n c X hn
    go_enter Tryd.func5, Tryd.ntmps5
    go_wp2_with (fail)
    refine (C _).mono ?_
    rintro e w1 ⟨rfl, b1⟩
    go_wp2
    go_ret
    exact ⟨rfl, b1⟩

end Go.Proofs.YtdjdanpicbaieaaDoor
