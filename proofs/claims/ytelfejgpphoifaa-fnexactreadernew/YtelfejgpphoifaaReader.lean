/-
  The laws' own functions of a reader: how much it holds, a copy, whether two say the same. Conditions: a reader that can be read.
-/
import Derived.Test.YtelfejgpphoifaaRowsA
namespace Go.Proofs.Ytelfejgpphoifaa
open Go.RowKit
set_option maxRecDepth 100000

/-- A reader as it lies. -/
structure RdA where
  s : RwA
  e : Int
  p : Option Addr
  n : Nat
  c : Nat
  seen : List RwA
  q : Option Addr
  m : Nat
  d : Nat
  got : List RwA
def RdA.cells (x : RdA) : Array Value := #[.slice x.s.p x.s.n x.s.c, .int .i64 x.e, .slice x.p x.n x.c, .slice x.q x.m x.d]
/-- What it says. -/
def RdA.con (x : RdA) : List Int × Int × List (List Int) × List (List Int) := (x.s.xs, x.e, x.seen.map RwA.xs, x.got.map RwA.xs)
structure RdA.Ok (w : World) (x : RdA) : Prop where
  seed : x.s.Ok w
  he : -9223372036854775808 ≤ x.e ∧ x.e ≤ 9223372036854775807
  seen : Rows w x.p x.n x.seen
  got : Rows w x.q x.m x.got
theorem RdA.Ok.on {w w' : World} {x : RdA} (h : x.Ok w) (b : Below w.heap.size w w') : x.Ok w' := ⟨h.seed.on b, h.he, h.seen.on b, h.got.on b⟩
/-- As much as a law hands over. -/
structure RdA.Fit (x : RdA) : Prop where
  s : x.s.n ≤ 1048576
  n : x.n ≤ 1048576
  seen : ∀ y ∈ x.seen, y.n ≤ 1048576
  m : x.m ≤ 1048576
  got : ∀ y ∈ x.got, y.n ≤ 1048576

theorem szR_yes {n : Nat} {rs : List RwA} {l : Int} (h : 0 ≤ szR n rs l) : szR n rs l = l - n - totR rs ∧ (n : Int) + totR rs ≤ l := by
  unfold szR at h ⊢
  split
  · rename_i e; exact ⟨rfl, e⟩
  · rename_i e; rw [if_neg e] at h; omega
theorem szR_no {n : Nat} {rs : List RwA} {l : Int} (h : ¬ 0 ≤ szR n rs l) : szR n rs l = -1 := by
  unfold szR at h ⊢
  split
  · rename_i e; rw [if_pos e] at h; omega
  · rfl

set_option maxHeartbeats 4000000 in
theorem szReader_any (x : RdA) (w : World) (ok : x.Ok w) :
    Calls Try.prog 6 #[.agg x.cells, .int .i64 1048576] w fun e w' => ∃ r : Int, e = .returned (.int .i64 r) ∧ (r = -1 ∨ (0 ≤ r ∧ r ≤ 1048576 ∧ x.Fit)) ∧ Below w.heap.size w w' := by
  obtain ⟨⟨sp, sn, sc, sx⟩, e, p, n, c, seen, q, m, d, got⟩ := x
  have o1 := ok.seed.hn
  have o2 := ok.seen
  have o3 := ok.got
  dsimp only at o1 o2 o3
  have E : RdA.cells ⟨⟨sp, sn, sc, sx⟩, e, p, n, c, seen, q, m, d, got⟩ = #[.slice sp sn sc, .int .i64 e, .slice p n c, .slice q m d] := rfl
  rw [E]
  clear E ok
  by_cases h1 : (sn : Int) ≤ 1048576
  · obtain ⟨l1, hl1⟩ : ∃ l1 : Int, l1 = 1048576 - sn := ⟨_, rfl⟩
    have g1 : 0 ≤ l1 ∧ l1 ≤ 1048576 := by omega
    have g1' : ¬ l1 < 0 := by omega
    have C1 := fun X => szByteS_any sp sn sc 1048576 X o1 (by omega)
    rw [if_pos h1, ← hl1] at C1
    by_cases h2 : 0 ≤ szR n seen l1
    · obtain ⟨l2, hl2⟩ : ∃ l2 : Int, l2 = szR n seen l1 := ⟨_, rfl⟩
      have s2 := szR_yes h2
      have g2 : 0 ≤ l2 ∧ l2 ≤ 1048576 := by omega
      have g2' : ¬ l2 < 0 := by omega
      have C2 := fun X h => szByteSS_any p n c seen l1 X h g1
      rw [← hl2] at C2
      by_cases h3 : 0 ≤ szR m got l2
      · obtain ⟨l3, hl3⟩ : ∃ l3 : Int, l3 = szR m got l2 := ⟨_, rfl⟩
        have s3 := szR_yes h3
        have g3 : 0 ≤ l3 ∧ l3 ≤ 1048576 := by omega
        have g3' : ¬ l3 < 0 := by omega
        have C3 := fun X h => szByteSS_any q m d got l2 X h g2
        rw [← hl3] at C3
        have fit : RdA.Fit ⟨⟨sp, sn, sc, sx⟩, e, p, n, c, seen, q, m, d, got⟩ := ⟨by show sn ≤ _; omega, by show n ≤ _; omega, fun y hy => by have := totR_mem seen y hy; omega, by show m ≤ _; omega, fun y hy => by have := totR_mem got y hy; omega⟩
        clear hl1 hl2 hl3 s2 s3 h1 h2 h3
        go_enter Try.func6, Try.ntmps6
        go_wp2_with (fail)
        refine (C1 _).mono ?_
        rintro z w1 ⟨rfl, b1⟩
        have D1 := (Cells.made w _ _).on b1
        have k1 := made_below _ _ b1
        have c2 : w1.cell? ⟨w.heap.size, 2, none⟩ = some (.slice p n c) := (D1.2 2).1
        have r1 := o2.on k1
        clear b1 C1
        go_wp2_with (fail)
        refine (C2 _ r1).mono ?_
        rintro z w2 ⟨rfl, b2⟩
        have D2 := D1.on b2
        have k2 := below_on k1 b2
        have c3 : w2.cell? ⟨w.heap.size, 3, none⟩ = some (.slice q m d) := (D2.2 3).1
        have r2 := o3.on k2
        clear b2 C2 c2 r1
        go_wp2_with (fail)
        refine (C3 _ r2).mono ?_
        rintro z w3 ⟨rfl, b3⟩
        have k3 := below_on k2 b3
        clear b3 C3 c3 r2
        go_wp2_with (fail)
        go_ret
        exact ⟨l3, rfl, .inr ⟨g3.1, g3.2, fit⟩, k3⟩
      · have C3 := fun X h => szByteSS_any q m d got l2 X h g2
        rw [szR_no h3] at C3
        clear hl1 hl2 s2 h1 h2 h3
        go_enter Try.func6, Try.ntmps6
        go_wp2_with (fail)
        refine (C1 _).mono ?_
        rintro z w1 ⟨rfl, b1⟩
        have D1 := (Cells.made w _ _).on b1
        have k1 := made_below _ _ b1
        have c2 : w1.cell? ⟨w.heap.size, 2, none⟩ = some (.slice p n c) := (D1.2 2).1
        have r1 := o2.on k1
        clear b1 C1
        go_wp2_with (fail)
        refine (C2 _ r1).mono ?_
        rintro z w2 ⟨rfl, b2⟩
        have D2 := D1.on b2
        have k2 := below_on k1 b2
        have c3 : w2.cell? ⟨w.heap.size, 3, none⟩ = some (.slice q m d) := (D2.2 3).1
        have r2 := o3.on k2
        clear b2 C2 c2 r1
        go_wp2_with (fail)
        refine (C3 _ r2).mono ?_
        rintro z w3 ⟨rfl, b3⟩
        have k3 := below_on k2 b3
        clear b3 C3 c3 r2
        go_wp2_with (fail)
        go_ret
        exact ⟨-1, rfl, .inl rfl, k3⟩
    · have C2 := fun X h => szByteSS_any p n c seen l1 X h g1
      rw [szR_no h2] at C2
      clear hl1 h1 h2
      go_enter Try.func6, Try.ntmps6
      go_wp2_with (fail)
      refine (C1 _).mono ?_
      rintro z w1 ⟨rfl, b1⟩
      have D1 := (Cells.made w _ _).on b1
      have k1 := made_below _ _ b1
      have c2 : w1.cell? ⟨w.heap.size, 2, none⟩ = some (.slice p n c) := (D1.2 2).1
      have r1 := o2.on k1
      clear b1 C1
      go_wp2_with (fail)
      refine (C2 _ r1).mono ?_
      rintro z w2 ⟨rfl, b2⟩
      have k2 := below_on k1 b2
      clear b2 C2 c2 r1
      go_wp2_with (fail)
      go_ret
      exact ⟨-1, rfl, .inl rfl, k2⟩
  · have C1 := fun X => szByteS_any sp sn sc 1048576 X o1 (by omega)
    rw [if_neg h1] at C1
    clear h1
    go_enter Try.func6, Try.ntmps6
    go_wp2_with (fail)
    refine (C1 _).mono ?_
    rintro z w1 ⟨rfl, b1⟩
    have k1 := made_below _ _ b1
    clear b1 C1
    go_wp2_with (fail)
    go_ret
    exact ⟨-1, rfl, .inl rfl, k1⟩

set_option maxHeartbeats 4000000 in
theorem toReader_any (x : RdA) (w : World) (ok : x.Ok w) (fit : x.Fit) :
    Calls Try.prog 8 #[.agg x.cells] w fun z w' => ∃ y : RdA, z = .returned (.agg y.cells) ∧ y.Ok w' ∧ Hid (y.con = x.con) ∧ Below w.heap.size w w' ∧ y.n ≤ y.c := by
  obtain ⟨⟨sp, sn, sc, sx⟩, e, p, n, c, seen, q, m, d, got⟩ := x
  have o1 := ok.seed
  have o2 := ok.seen
  have o3 := ok.got
  have o4 := ok.he
  obtain ⟨f1, f2, f3, f4, f5⟩ := fit
  dsimp only at o1 o2 o3 o4 f1 f2 f3 f4 f5
  have E : RdA.cells ⟨⟨sp, sn, sc, sx⟩, e, p, n, c, seen, q, m, d, got⟩ = #[.slice sp sn sc, .int .i64 e, .slice p n c, .slice q m d] := rfl
  have E2 : Hid (RdA.con ⟨⟨sp, sn, sc, sx⟩, e, p, n, c, seen, q, m, d, got⟩ = (sx, e, seen.map RwA.xs, got.map RwA.xs)) := rfl
  have by1 := o1.byte
  have len1 := o1.len
  dsimp only at by1 len1
  rw [E, E2.out]
  clear E E2 ok
  have kA : ∀ a b c, Below w.heap.size w (((w.alloc a).alloc b).alloc c) := fun a b c => made_below _ _ (made_below _ _ (made_below _ _ (Below.refl _ _)))
  have sz : ∀ (W : World) o, (W.alloc o).heap.size = W.heap.size + 1 := fun W o => by simp
  go_enter Try.func8, Try.ntmps8
  go_wp2_with (fail)
  refine (toByteS_own sp sn sc sx _ f1 len1 (in_below o1.bytes (kA _ _ _))).mono ?_
  rintro z w1 ⟨p1, c1, rfl, r1, b1⟩
  have D0 := (Cells.made w _ _).on (made_below _ _ (made_below _ _ b1))
  have D1 := (Cells.made (w.alloc _) _ _).on (made_below _ _ b1)
  have D2 := (Cells.made ((w.alloc _).alloc _) _ _).on b1
  have k1 := made_below _ _ (made_below _ _ (made_below _ _ b1))
  rw [sz] at D1
  rw [sz, sz] at D2
  rw [sz, sz, sz] at r1
  clear b1
  obtain ⟨B, hB⟩ : ∃ B, w.heap.size + 1 + 1 = B := ⟨_, rfl⟩
  obtain ⟨B1, hB1⟩ : ∃ B1, w.heap.size + 1 = B1 := ⟨_, rfl⟩
  obtain ⟨B0, hB0⟩ : ∃ B0, w.heap.size = B0 := ⟨_, rfl⟩
  rw [hB] at D2 r1 ⊢
  rw [hB1] at D1 ⊢
  rw [hB0] at D0 k1 ⊢
  have n0 : B0 < B1 := by omega
  have n1 : B1 < B := by omega
  have fr1 := own_from r1
  have y1 : BytesIn w1 p1 sn sx := r1.bytes
  replace hB0 : Hid (w.heap.size = B0) := hB0
  clear r1 hB hB1 kA sz
  -- the seed
  have a0 : w1.cell? ⟨B, 0, none⟩ = some (.slice none 0 0) := (D2.2 0).1
  have z0 := (D2.2 0).2
  have k1' := k1.setCell (p := ⟨B, 0, none⟩) (by show B0 ≤ B; omega) (.slice p1 sn c1)
  have D0' := D0.other (a := ⟨B, 0, none⟩) (.slice p1 sn c1) (by show B0 ≠ B; omega)
  have D1' := D1.other (a := ⟨B, 0, none⟩) (.slice p1 sn c1) (by show B1 ≠ B; omega)
  have D2' := D2.set 0 (by simp) (.slice p1 sn c1)
  have y1' := in_set y1 fr1 (a := ⟨B, 0, none⟩) (by show B < B + 1; omega) (.slice p1 sn c1)
  obtain ⟨w2, hw2⟩ : ∃ w2, w1.setCell ⟨B, 0, none⟩ (.slice p1 sn c1) = w2 := ⟨_, rfl⟩
  rw [hw2] at k1' D0' D1' D2' y1'
  replace hw2 : Hid (w1.setCell ⟨B, 0, none⟩ (.slice p1 sn c1) = w2) := hw2
  -- the epoch
  have a1 : w2.cell? ⟨B0, 1, none⟩ = some (.int .i64 e) := (D0'.2 1).1
  have a2 : w2.cell? ⟨B, 1, none⟩ = some (.int .i64 0) := (D2'.2 1).1
  have z2 := (D2'.2 1).2
  have k2 := k1'.setCell (p := ⟨B, 1, none⟩) (by show B0 ≤ B; omega) (.int .i64 e)
  have D0'' := D0'.other (a := ⟨B, 1, none⟩) (.int .i64 e) (by show B0 ≠ B; omega)
  have D1'' := D1'.other (a := ⟨B, 1, none⟩) (.int .i64 e) (by show B1 ≠ B; omega)
  have D2'' := D2'.set 1 (by simp) (.int .i64 e)
  have y1'' := in_set y1' fr1 (a := ⟨B, 1, none⟩) (by show B < B + 1; omega) (.int .i64 e)
  obtain ⟨w3, hw3⟩ : ∃ w3, w2.setCell ⟨B, 1, none⟩ (.int .i64 e) = w3 := ⟨_, rfl⟩
  rw [hw3] at k2 D0'' D1'' D2'' y1''
  replace hw3 : Hid (w2.setCell ⟨B, 1, none⟩ (.int .i64 e) = w3) := hw3
  have a3 : w3.cell? ⟨B0, 2, none⟩ = some (.slice p n c) := (D0''.2 2).1
  clear D0 D1 D2 D0' D1' D2' y1 y1' k1 k1'
  go_wp2_with (first | rw [hw2.out] | rw [hw3.out])
  rw [← hB0.out] at k2
  refine (toByteSS_any p n c seen _ f2 (o2.on k2) f3).mono ?_
  rintro z w4 ⟨p4, c4, rs4, rfl, R4, F4, h4, b4, hnc⟩
  have k4 := below_on k2 b4
  have E0 := D0''.on b4
  have E1 := D1''.on b4
  have E2 := D2''.on b4
  have hBw : B < w3.heap.size := D2''.1
  have y4 := in_below y1'' b4
  have a5 : w4.cell? ⟨B, 2, none⟩ = some (.slice none 0 0) := (E2.2 2).1
  have z5 := (E2.2 2).2
  rw [hB0.out] at k4
  have k5 := k4.setCell (p := ⟨B, 2, none⟩) (by show B0 ≤ B; omega) (.slice p4 n c4)
  have G0 := E0.other (a := ⟨B, 2, none⟩) (.slice p4 n c4) (by show B0 ≠ B; omega)
  have G1 := E1.other (a := ⟨B, 2, none⟩) (.slice p4 n c4) (by show B1 ≠ B; omega)
  have G2 := E2.set 2 (by simp) (.slice p4 n c4)
  have y5 := in_set y4 fr1 (a := ⟨B, 2, none⟩) (by show B < B + 1; omega) (.slice p4 n c4)
  have R5 := R4.set F4 (a := ⟨B, 2, none⟩) hBw (.slice p4 n c4)
  obtain ⟨w5, hw5⟩ : ∃ w5, w4.setCell ⟨B, 2, none⟩ (.slice p4 n c4) = w5 := ⟨_, rfl⟩
  rw [hw5] at k5 G0 G1 G2 y5 R5
  replace hw5 : Hid (w4.setCell ⟨B, 2, none⟩ (.slice p4 n c4) = w5) := hw5
  have a6 : w5.cell? ⟨B0, 3, none⟩ = some (.slice q m d) := (G0.2 3).1
  clear E0 E1 E2 D0'' D1'' D2'' y4 y1'' R4 k4 b4 k2
  go_wp2_with (first | rw [hw5.out])
  rw [← hB0.out] at k5
  refine (toByteSS_any q m d got _ f4 (o3.on k5) f5).mono ?_
  rintro z w6 ⟨p6, c6, rs6, rfl, R6, F6, h6, b6, _⟩
  have k6 := below_on k5 b6
  have E1 := G1.on b6
  have E2 := G2.on b6
  have hBw' : B < w5.heap.size := G2.1
  have y6 := in_below y5 b6
  have S6 := R5.on b6
  have a7 : w6.cell? ⟨B, 3, none⟩ = some (.slice none 0 0) := (E2.2 3).1
  have z7 := (E2.2 3).2
  rw [hB0.out] at k6
  have k7 := k6.setCell (p := ⟨B, 3, none⟩) (by show B0 ≤ B; omega) (.slice p6 m c6)
  have H1 := E1.other (a := ⟨B, 3, none⟩) (.slice p6 m c6) (by show B1 ≠ B; omega)
  have H2 := E2.set 3 (by simp) (.slice p6 m c6)
  have y7 := in_set y6 fr1 (a := ⟨B, 3, none⟩) (by show B < B + 1; omega) (.slice p6 m c6)
  have S7 := S6.set F4 (a := ⟨B, 3, none⟩) hBw (.slice p6 m c6)
  have R7 := R6.set F6 (a := ⟨B, 3, none⟩) hBw' (.slice p6 m c6)
  obtain ⟨w7, hw7⟩ : ∃ w7, w6.setCell ⟨B, 3, none⟩ (.slice p6 m c6) = w7 := ⟨_, rfl⟩
  rw [hw7] at k7 H1 H2 y7 S7 R7
  replace hw7 : Hid (w6.setCell ⟨B, 3, none⟩ (.slice p6 m c6) = w7) := hw7
  have m0 : w7.cell? ⟨B, 0, none⟩ = some (.slice p1 sn c1) := (H2.2 0).1
  have m1 : w7.cell? ⟨B, 1, none⟩ = some (.int .i64 e) := (H2.2 1).1
  have m2 : w7.cell? ⟨B, 2, none⟩ = some (.slice p4 n c4) := (H2.2 2).1
  have m3 : w7.cell? ⟨B, 3, none⟩ = some (.slice p6 m c6) := (H2.2 3).1
  have q0 : w7.cell? ⟨B1, 0, none⟩ = some (.slice none 0 0) := (H1.2 0).1
  have x0 := (H1.2 0).2
  have I1 := H1.set 0 (by simp) (.slice p1 sn c1)
  have q1 : (w7.setCell ⟨B1, 0, none⟩ (.slice p1 sn c1)).cell? ⟨B1, 1, none⟩ = some (.int .i64 0) := (I1.2 1).1
  have x1 := (I1.2 1).2
  have I2 := I1.set 1 (by simp) (.int .i64 e)
  have q2 : ((w7.setCell ⟨B1, 0, none⟩ (.slice p1 sn c1)).setCell ⟨B1, 1, none⟩ (.int .i64 e)).cell? ⟨B1, 2, none⟩ = some (.slice none 0 0) := (I2.2 2).1
  have x2 := (I2.2 2).2
  have I3 := I2.set 2 (by simp) (.slice p4 n c4)
  have q3 : (((w7.setCell ⟨B1, 0, none⟩ (.slice p1 sn c1)).setCell ⟨B1, 1, none⟩ (.int .i64 e)).setCell ⟨B1, 2, none⟩ (.slice p4 n c4)).cell? ⟨B1, 3, none⟩ = some (.slice none 0 0) := (I3.2 3).1
  have x3 := (I3.2 3).2
  have I4 := I3.set 3 (by simp) (.slice p6 m c6)
  have kk : ∀ (X : World) i v, Below B0 w X → Below B0 w (X.setCell ⟨B1, i, none⟩ v) := fun X i v h => h.setCell (p := ⟨B1, i, none⟩) (by show B0 ≤ B1; omega) v
  have k8 := kk _ 3 (.slice p6 m c6) (kk _ 2 (.slice p4 n c4) (kk _ 1 (.int .i64 e) (kk _ 0 (.slice p1 sn c1) k7)))
  have y8 := in_set (in_set (in_set (in_set y7 fr1 (a := ⟨B1, 0, none⟩) (by show B1 < B + 1; omega) (.slice p1 sn c1)) fr1 (a := ⟨B1, 1, none⟩) (by show B1 < B + 1; omega) (.int .i64 e)) fr1 (a := ⟨B1, 2, none⟩) (by show B1 < B + 1; omega) (.slice p4 n c4)) fr1 (a := ⟨B1, 3, none⟩) (by show B1 < B + 1; omega) (.slice p6 m c6)
  have S8 := (((S7.set F4 (a := ⟨B1, 0, none⟩) (by show B1 < _; omega) (.slice p1 sn c1)).set F4 (a := ⟨B1, 1, none⟩) (by show B1 < _; omega) (.int .i64 e)).set F4 (a := ⟨B1, 2, none⟩) (by show B1 < _; omega) (.slice p4 n c4)).set F4 (a := ⟨B1, 3, none⟩) (by show B1 < _; omega) (.slice p6 m c6)
  have R8 := (((R7.set F6 (a := ⟨B1, 0, none⟩) (by show B1 < _; omega) (.slice p1 sn c1)).set F6 (a := ⟨B1, 1, none⟩) (by show B1 < _; omega) (.int .i64 e)).set F6 (a := ⟨B1, 2, none⟩) (by show B1 < _; omega) (.slice p4 n c4)).set F6 (a := ⟨B1, 3, none⟩) (by show B1 < _; omega) (.slice p6 m c6)
  obtain ⟨w8, hw8⟩ : ∃ w8, (((w7.setCell ⟨B1, 0, none⟩ (.slice p1 sn c1)).setCell ⟨B1, 1, none⟩ (.int .i64 e)).setCell ⟨B1, 2, none⟩ (.slice p4 n c4)).setCell ⟨B1, 3, none⟩ (.slice p6 m c6) = w8 := ⟨_, rfl⟩
  rw [hw8] at I4 k8 y8 S8 R8
  replace hw8 : Hid ((((w7.setCell ⟨B1, 0, none⟩ (.slice p1 sn c1)).setCell ⟨B1, 1, none⟩ (.int .i64 e)).setCell ⟨B1, 2, none⟩ (.slice p4 n c4)).setCell ⟨B1, 3, none⟩ (.slice p6 m c6) = w8) := hw8
  have t0 : w8.cell? ⟨B1, 0, none⟩ = some (.slice p1 sn c1) := (I4.2 0).1
  have t1 : w8.cell? ⟨B1, 1, none⟩ = some (.int .i64 e) := (I4.2 1).1
  have t2 : w8.cell? ⟨B1, 2, none⟩ = some (.slice p4 n c4) := (I4.2 2).1
  have t3 : w8.cell? ⟨B1, 3, none⟩ = some (.slice p6 m c6) := (I4.2 3).1
  clear I1 I2 I3 I4 H1 H2 E1 E2 G0 G1 G2 kk b6 k5 k6 k7 y5 y6 y7 S6 S7 R5 R6 R7
  go_wp2_with (first | rw [hw7.out] | rw [hw8.out])
  refine bodyPost_ret (v := .agg #[.slice p1 sn c1, .int .i64 e, .slice p4 n c4, .slice p6 m c6]) ?_ rfl ⟨⟨⟨p1, sn, c1, sx⟩, e, p4, n, c4, rs4, p6, m, c6, rs6⟩, rfl, ⟨⟨by show sn ≤ _; omega, len1, y8, by1⟩, o4, S8, R8⟩, ?_, by rw [hB0.out]; exact k8, hnc⟩
  · simp only [results, Try.f8]
    go_simp
  · show (sx, e, rs4.map RwA.xs, rs6.map RwA.xs) = _
    rw [h4.out, h6.out]

end Go.Proofs.Ytelfejgpphoifaa
