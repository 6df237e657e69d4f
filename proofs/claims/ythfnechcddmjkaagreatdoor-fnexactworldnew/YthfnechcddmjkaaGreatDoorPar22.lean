/-
  A new world: what WldG proves is said in its theorems; conditions: each theorem's own.
  A new world: what WldH proves is said in its theorems; conditions: each theorem's own.
  FnExactWorldNew returns true for any bytes, and writes nothing that was there; conditions: bytes all, and the table of errors' types is laid.
-/
import Derived.Test.YthfnechcddmjkaaGreatDoorPar21
import Derived.Test.YthfnechcddmjkaaGreatDoorPar10
import Derived.Test.YthfnechcddmjkaaGreatDoorPar07
import Derived.Test.YthfnechcddmjkaaGreatDoorPar02
namespace Go.Proofs.YthfnechcddmjkaaGreatDoor
open Go.RowKit
set_option maxRecDepth 100000
theorem own_le {e : Nat} {w : World} {lo hi : Nat} {p : Option Addr} {c : Nat} {xs : List Int} (h : Own e w lo hi (.slice p 32 c) 32 xs) : lo ≤ hi := by
  rcases h.1.2 with ⟨_, h0⟩ | ⟨g, cap, cur, hv, hbg, _⟩
  · omega
  · have := h.2 g (by rw [hv]; rfl)
    omega
theorem buildWN (w : World) (p q : Option Addr) (n c m d : Nat) (A0 A1 A2 A3 B1 B2 B3 : Value) : (Instr.build 32 #[(0, .slice p n c), (3, .agg #[A0, A1, A2, A3]), (4, .agg #[.slice q m d, B1, B2, B3])]).run Tryz.prog w = .ok (.agg #[.slice p n c, .int .i64 0, .int .i64 0, A0, A1, A2, A3, .slice q m d, B1, B2, B3, .slice none 0 0, .slice none 0 0]) w := by kernel_rfl
theorem buildRN (w : World) (p : Option Addr) (n c : Nat) : (Instr.build 28 #[(0, .slice p n c)]).run Tryz.prog w = .ok (.agg #[.slice p n c, .int .i64 0, .slice none 0 0, .slice none 0 0]) w := by kernel_rfl
theorem buildZN (w : World) : (Instr.build 32 #[]).run Tryz.prog w = .ok (.agg #[.slice none 0 0, .int .i64 0, .int .i64 0, .slice none 0 0, .int .i64 0, .slice none 0 0, .int .i64 0, .slice none 0 0, .int .i64 0, .slice none 0 0, .slice none 0 0, .slice none 0 0, .slice none 0 0]) w := by kernel_rfl
theorem buildPN (w : World) : (Instr.build 25 #[]).run Tryz.prog w = .ok (.agg #[.slice none 0 0, .int .i64 0, .slice none 0 0, .int .i64 0]) w := by kernel_rfl
set_option maxHeartbeats 2000000 in
theorem implPostNew_any (w : World) : Calls Tryz.prog 21 #[] w fun e w' => e = .returned (.agg #[.slice none 0 0, .int .i64 0, .slice none 0 0, .int .i64 0]) ∧ Below w.heap.size w w' := by
  have bP := buildPN
  have CZ := Cells.made w #[.slice none 0 0, .int .i64 0, .slice none 0 0, .int .i64 0] 25
  go_enter Tryz.func21, Tryz.ntmps21
  go_wp2_with (fail)
  refine bodyPost_ret (v := .agg #[.slice none 0 0, .int .i64 0, .slice none 0 0, .int .i64 0]) ?_ rfl ⟨rfl, made_below _ _ (Below.refl _ _)⟩
  have y0 := (CZ.2 0).1
  have y1 := (CZ.2 1).1
  have y2 := (CZ.2 2).1
  have y3 := (CZ.2 3).1
  simp only [results, Tryz.f21]
  go_simp
set_option maxHeartbeats 8000000 in
theorem implWorldNew_no (p q : Option Addr) (n c m d : Nat) (w : World) (hne : ¬ n = 32) : Calls Tryz.prog 7 #[.slice p n c, .slice q m d] w fun z w' => z = .returned (.tuple #[.agg #[.slice none 0 0, .int .i64 0, .int .i64 0, .slice none 0 0, .int .i64 0, .slice none 0 0, .int .i64 0, .slice none 0 0, .int .i64 0, .slice none 0 0, .slice none 0 0, .slice none 0 0, .slice none 0 0], .bool false]) ∧ Below w.heap.size w w' := by
  have bW := buildWN
  have bR := buildRN
  have bZ := buildZN
  have PN := fun X => implPostNew_any X
  have WO := fun X => implWorldOk_no p q n c m d X hne
  go_enter Tryz.func7, Tryz.ntmps7
  go_wp2_with (fail)
  obtain ⟨W0, hW0⟩ : ∃ W0, w.alloc (.cells #[.slice none 0 0, .int .i64 0, .int .i64 0, .slice none 0 0, .int .i64 0, .slice none 0 0, .int .i64 0, .slice none 0 0, .int .i64 0, .slice none 0 0, .slice none 0 0, .slice none 0 0, .slice none 0 0] 32) = W0 := ⟨_, rfl⟩
  have Z0 : Cells W0 w.heap.size #[.slice none 0 0, .int .i64 0, .int .i64 0, .slice none 0 0, .int .i64 0, .slice none 0 0, .int .i64 0, .slice none 0 0, .int .i64 0, .slice none 0 0, .slice none 0 0, .slice none 0 0, .slice none 0 0] := by rw [← hW0]; exact Cells.made _ _ _
  have k0 : Below w.heap.size w W0 := by rw [← hW0]; exact made_below _ _ (Below.refl _ _)
  rw [hW0]
  clear hW0
  refine (PN _).mono ?_
  rintro z w2 ⟨rfl, b2⟩
  have Z2 := Z0.on b2
  have k2 := below_on k0 b2
  clear PN
  go_wp2_with (fail)
  refine (WO _).mono ?_
  rintro z w4 ⟨rfl, b4⟩
  have b3 := made_below _ _ b4
  have Z4 := Z2.on b3
  have k4 := below_on k2 b3
  have m0 : (w4).cell? ⟨w.heap.size, 0, none⟩ = some (.slice none 0 0) := (Z4.2 0).1
  have f0 := (Z4.2 0).2
  have D0 : Cells (w4.setCell ⟨w.heap.size, 0, none⟩ (.slice none 0 0)) (w.heap.size) #[.slice none 0 0, .int .i64 0, .int .i64 0, .slice none 0 0, .int .i64 0, .slice none 0 0, .int .i64 0, .slice none 0 0, .int .i64 0, .slice none 0 0, .slice none 0 0, .slice none 0 0, .slice none 0 0] := Z4.set 0 (by simp) (.slice none 0 0)
  have m1 : ((w4.setCell ⟨w.heap.size, 0, none⟩ (.slice none 0 0))).cell? ⟨w.heap.size, 1, none⟩ = some (.int .i64 0) := (D0.2 1).1
  have f1 := (D0.2 1).2
  have D1 : Cells ((w4.setCell ⟨w.heap.size, 0, none⟩ (.slice none 0 0)).setCell ⟨w.heap.size, 1, none⟩ (.int .i64 0)) (w.heap.size) #[.slice none 0 0, .int .i64 0, .int .i64 0, .slice none 0 0, .int .i64 0, .slice none 0 0, .int .i64 0, .slice none 0 0, .int .i64 0, .slice none 0 0, .slice none 0 0, .slice none 0 0, .slice none 0 0] := D0.set 1 (by simp) (.int .i64 0)
  clear D0
  have m2 : (((w4.setCell ⟨w.heap.size, 0, none⟩ (.slice none 0 0)).setCell ⟨w.heap.size, 1, none⟩ (.int .i64 0))).cell? ⟨w.heap.size, 2, none⟩ = some (.int .i64 0) := (D1.2 2).1
  have f2 := (D1.2 2).2
  have D2 : Cells (((w4.setCell ⟨w.heap.size, 0, none⟩ (.slice none 0 0)).setCell ⟨w.heap.size, 1, none⟩ (.int .i64 0)).setCell ⟨w.heap.size, 2, none⟩ (.int .i64 0)) (w.heap.size) #[.slice none 0 0, .int .i64 0, .int .i64 0, .slice none 0 0, .int .i64 0, .slice none 0 0, .int .i64 0, .slice none 0 0, .int .i64 0, .slice none 0 0, .slice none 0 0, .slice none 0 0, .slice none 0 0] := D1.set 2 (by simp) (.int .i64 0)
  clear D1
  have m3 : ((((w4.setCell ⟨w.heap.size, 0, none⟩ (.slice none 0 0)).setCell ⟨w.heap.size, 1, none⟩ (.int .i64 0)).setCell ⟨w.heap.size, 2, none⟩ (.int .i64 0))).cell? ⟨w.heap.size, 3, none⟩ = some (.slice none 0 0) := (D2.2 3).1
  have f3 := (D2.2 3).2
  have D3 : Cells ((((w4.setCell ⟨w.heap.size, 0, none⟩ (.slice none 0 0)).setCell ⟨w.heap.size, 1, none⟩ (.int .i64 0)).setCell ⟨w.heap.size, 2, none⟩ (.int .i64 0)).setCell ⟨w.heap.size, 3, none⟩ (.slice none 0 0)) (w.heap.size) #[.slice none 0 0, .int .i64 0, .int .i64 0, .slice none 0 0, .int .i64 0, .slice none 0 0, .int .i64 0, .slice none 0 0, .int .i64 0, .slice none 0 0, .slice none 0 0, .slice none 0 0, .slice none 0 0] := D2.set 3 (by simp) (.slice none 0 0)
  clear D2
  have m4 : (((((w4.setCell ⟨w.heap.size, 0, none⟩ (.slice none 0 0)).setCell ⟨w.heap.size, 1, none⟩ (.int .i64 0)).setCell ⟨w.heap.size, 2, none⟩ (.int .i64 0)).setCell ⟨w.heap.size, 3, none⟩ (.slice none 0 0))).cell? ⟨w.heap.size, 4, none⟩ = some (.int .i64 0) := (D3.2 4).1
  have f4 := (D3.2 4).2
  have D4 : Cells (((((w4.setCell ⟨w.heap.size, 0, none⟩ (.slice none 0 0)).setCell ⟨w.heap.size, 1, none⟩ (.int .i64 0)).setCell ⟨w.heap.size, 2, none⟩ (.int .i64 0)).setCell ⟨w.heap.size, 3, none⟩ (.slice none 0 0)).setCell ⟨w.heap.size, 4, none⟩ (.int .i64 0)) (w.heap.size) #[.slice none 0 0, .int .i64 0, .int .i64 0, .slice none 0 0, .int .i64 0, .slice none 0 0, .int .i64 0, .slice none 0 0, .int .i64 0, .slice none 0 0, .slice none 0 0, .slice none 0 0, .slice none 0 0] := D3.set 4 (by simp) (.int .i64 0)
  clear D3
  have m5 : ((((((w4.setCell ⟨w.heap.size, 0, none⟩ (.slice none 0 0)).setCell ⟨w.heap.size, 1, none⟩ (.int .i64 0)).setCell ⟨w.heap.size, 2, none⟩ (.int .i64 0)).setCell ⟨w.heap.size, 3, none⟩ (.slice none 0 0)).setCell ⟨w.heap.size, 4, none⟩ (.int .i64 0))).cell? ⟨w.heap.size, 5, none⟩ = some (.slice none 0 0) := (D4.2 5).1
  have f5 := (D4.2 5).2
  have D5 : Cells ((((((w4.setCell ⟨w.heap.size, 0, none⟩ (.slice none 0 0)).setCell ⟨w.heap.size, 1, none⟩ (.int .i64 0)).setCell ⟨w.heap.size, 2, none⟩ (.int .i64 0)).setCell ⟨w.heap.size, 3, none⟩ (.slice none 0 0)).setCell ⟨w.heap.size, 4, none⟩ (.int .i64 0)).setCell ⟨w.heap.size, 5, none⟩ (.slice none 0 0)) (w.heap.size) #[.slice none 0 0, .int .i64 0, .int .i64 0, .slice none 0 0, .int .i64 0, .slice none 0 0, .int .i64 0, .slice none 0 0, .int .i64 0, .slice none 0 0, .slice none 0 0, .slice none 0 0, .slice none 0 0] := D4.set 5 (by simp) (.slice none 0 0)
  clear D4
  have m6 : (((((((w4.setCell ⟨w.heap.size, 0, none⟩ (.slice none 0 0)).setCell ⟨w.heap.size, 1, none⟩ (.int .i64 0)).setCell ⟨w.heap.size, 2, none⟩ (.int .i64 0)).setCell ⟨w.heap.size, 3, none⟩ (.slice none 0 0)).setCell ⟨w.heap.size, 4, none⟩ (.int .i64 0)).setCell ⟨w.heap.size, 5, none⟩ (.slice none 0 0))).cell? ⟨w.heap.size, 6, none⟩ = some (.int .i64 0) := (D5.2 6).1
  have f6 := (D5.2 6).2
  have D6 : Cells (((((((w4.setCell ⟨w.heap.size, 0, none⟩ (.slice none 0 0)).setCell ⟨w.heap.size, 1, none⟩ (.int .i64 0)).setCell ⟨w.heap.size, 2, none⟩ (.int .i64 0)).setCell ⟨w.heap.size, 3, none⟩ (.slice none 0 0)).setCell ⟨w.heap.size, 4, none⟩ (.int .i64 0)).setCell ⟨w.heap.size, 5, none⟩ (.slice none 0 0)).setCell ⟨w.heap.size, 6, none⟩ (.int .i64 0)) (w.heap.size) #[.slice none 0 0, .int .i64 0, .int .i64 0, .slice none 0 0, .int .i64 0, .slice none 0 0, .int .i64 0, .slice none 0 0, .int .i64 0, .slice none 0 0, .slice none 0 0, .slice none 0 0, .slice none 0 0] := D5.set 6 (by simp) (.int .i64 0)
  clear D5
  have m7 : ((((((((w4.setCell ⟨w.heap.size, 0, none⟩ (.slice none 0 0)).setCell ⟨w.heap.size, 1, none⟩ (.int .i64 0)).setCell ⟨w.heap.size, 2, none⟩ (.int .i64 0)).setCell ⟨w.heap.size, 3, none⟩ (.slice none 0 0)).setCell ⟨w.heap.size, 4, none⟩ (.int .i64 0)).setCell ⟨w.heap.size, 5, none⟩ (.slice none 0 0)).setCell ⟨w.heap.size, 6, none⟩ (.int .i64 0))).cell? ⟨w.heap.size, 7, none⟩ = some (.slice none 0 0) := (D6.2 7).1
  have f7 := (D6.2 7).2
  have D7 : Cells ((((((((w4.setCell ⟨w.heap.size, 0, none⟩ (.slice none 0 0)).setCell ⟨w.heap.size, 1, none⟩ (.int .i64 0)).setCell ⟨w.heap.size, 2, none⟩ (.int .i64 0)).setCell ⟨w.heap.size, 3, none⟩ (.slice none 0 0)).setCell ⟨w.heap.size, 4, none⟩ (.int .i64 0)).setCell ⟨w.heap.size, 5, none⟩ (.slice none 0 0)).setCell ⟨w.heap.size, 6, none⟩ (.int .i64 0)).setCell ⟨w.heap.size, 7, none⟩ (.slice none 0 0)) (w.heap.size) #[.slice none 0 0, .int .i64 0, .int .i64 0, .slice none 0 0, .int .i64 0, .slice none 0 0, .int .i64 0, .slice none 0 0, .int .i64 0, .slice none 0 0, .slice none 0 0, .slice none 0 0, .slice none 0 0] := D6.set 7 (by simp) (.slice none 0 0)
  clear D6
  have m8 : (((((((((w4.setCell ⟨w.heap.size, 0, none⟩ (.slice none 0 0)).setCell ⟨w.heap.size, 1, none⟩ (.int .i64 0)).setCell ⟨w.heap.size, 2, none⟩ (.int .i64 0)).setCell ⟨w.heap.size, 3, none⟩ (.slice none 0 0)).setCell ⟨w.heap.size, 4, none⟩ (.int .i64 0)).setCell ⟨w.heap.size, 5, none⟩ (.slice none 0 0)).setCell ⟨w.heap.size, 6, none⟩ (.int .i64 0)).setCell ⟨w.heap.size, 7, none⟩ (.slice none 0 0))).cell? ⟨w.heap.size, 8, none⟩ = some (.int .i64 0) := (D7.2 8).1
  have f8 := (D7.2 8).2
  have D8 : Cells (((((((((w4.setCell ⟨w.heap.size, 0, none⟩ (.slice none 0 0)).setCell ⟨w.heap.size, 1, none⟩ (.int .i64 0)).setCell ⟨w.heap.size, 2, none⟩ (.int .i64 0)).setCell ⟨w.heap.size, 3, none⟩ (.slice none 0 0)).setCell ⟨w.heap.size, 4, none⟩ (.int .i64 0)).setCell ⟨w.heap.size, 5, none⟩ (.slice none 0 0)).setCell ⟨w.heap.size, 6, none⟩ (.int .i64 0)).setCell ⟨w.heap.size, 7, none⟩ (.slice none 0 0)).setCell ⟨w.heap.size, 8, none⟩ (.int .i64 0)) (w.heap.size) #[.slice none 0 0, .int .i64 0, .int .i64 0, .slice none 0 0, .int .i64 0, .slice none 0 0, .int .i64 0, .slice none 0 0, .int .i64 0, .slice none 0 0, .slice none 0 0, .slice none 0 0, .slice none 0 0] := D7.set 8 (by simp) (.int .i64 0)
  clear D7
  have m9 : ((((((((((w4.setCell ⟨w.heap.size, 0, none⟩ (.slice none 0 0)).setCell ⟨w.heap.size, 1, none⟩ (.int .i64 0)).setCell ⟨w.heap.size, 2, none⟩ (.int .i64 0)).setCell ⟨w.heap.size, 3, none⟩ (.slice none 0 0)).setCell ⟨w.heap.size, 4, none⟩ (.int .i64 0)).setCell ⟨w.heap.size, 5, none⟩ (.slice none 0 0)).setCell ⟨w.heap.size, 6, none⟩ (.int .i64 0)).setCell ⟨w.heap.size, 7, none⟩ (.slice none 0 0)).setCell ⟨w.heap.size, 8, none⟩ (.int .i64 0))).cell? ⟨w.heap.size, 9, none⟩ = some (.slice none 0 0) := (D8.2 9).1
  have f9 := (D8.2 9).2
  have D9 : Cells ((((((((((w4.setCell ⟨w.heap.size, 0, none⟩ (.slice none 0 0)).setCell ⟨w.heap.size, 1, none⟩ (.int .i64 0)).setCell ⟨w.heap.size, 2, none⟩ (.int .i64 0)).setCell ⟨w.heap.size, 3, none⟩ (.slice none 0 0)).setCell ⟨w.heap.size, 4, none⟩ (.int .i64 0)).setCell ⟨w.heap.size, 5, none⟩ (.slice none 0 0)).setCell ⟨w.heap.size, 6, none⟩ (.int .i64 0)).setCell ⟨w.heap.size, 7, none⟩ (.slice none 0 0)).setCell ⟨w.heap.size, 8, none⟩ (.int .i64 0)).setCell ⟨w.heap.size, 9, none⟩ (.slice none 0 0)) (w.heap.size) #[.slice none 0 0, .int .i64 0, .int .i64 0, .slice none 0 0, .int .i64 0, .slice none 0 0, .int .i64 0, .slice none 0 0, .int .i64 0, .slice none 0 0, .slice none 0 0, .slice none 0 0, .slice none 0 0] := D8.set 9 (by simp) (.slice none 0 0)
  clear D8
  have m10 : (((((((((((w4.setCell ⟨w.heap.size, 0, none⟩ (.slice none 0 0)).setCell ⟨w.heap.size, 1, none⟩ (.int .i64 0)).setCell ⟨w.heap.size, 2, none⟩ (.int .i64 0)).setCell ⟨w.heap.size, 3, none⟩ (.slice none 0 0)).setCell ⟨w.heap.size, 4, none⟩ (.int .i64 0)).setCell ⟨w.heap.size, 5, none⟩ (.slice none 0 0)).setCell ⟨w.heap.size, 6, none⟩ (.int .i64 0)).setCell ⟨w.heap.size, 7, none⟩ (.slice none 0 0)).setCell ⟨w.heap.size, 8, none⟩ (.int .i64 0)).setCell ⟨w.heap.size, 9, none⟩ (.slice none 0 0))).cell? ⟨w.heap.size, 10, none⟩ = some (.slice none 0 0) := (D9.2 10).1
  have f10 := (D9.2 10).2
  have D10 : Cells (((((((((((w4.setCell ⟨w.heap.size, 0, none⟩ (.slice none 0 0)).setCell ⟨w.heap.size, 1, none⟩ (.int .i64 0)).setCell ⟨w.heap.size, 2, none⟩ (.int .i64 0)).setCell ⟨w.heap.size, 3, none⟩ (.slice none 0 0)).setCell ⟨w.heap.size, 4, none⟩ (.int .i64 0)).setCell ⟨w.heap.size, 5, none⟩ (.slice none 0 0)).setCell ⟨w.heap.size, 6, none⟩ (.int .i64 0)).setCell ⟨w.heap.size, 7, none⟩ (.slice none 0 0)).setCell ⟨w.heap.size, 8, none⟩ (.int .i64 0)).setCell ⟨w.heap.size, 9, none⟩ (.slice none 0 0)).setCell ⟨w.heap.size, 10, none⟩ (.slice none 0 0)) (w.heap.size) #[.slice none 0 0, .int .i64 0, .int .i64 0, .slice none 0 0, .int .i64 0, .slice none 0 0, .int .i64 0, .slice none 0 0, .int .i64 0, .slice none 0 0, .slice none 0 0, .slice none 0 0, .slice none 0 0] := D9.set 10 (by simp) (.slice none 0 0)
  clear D9
  have m11 : ((((((((((((w4.setCell ⟨w.heap.size, 0, none⟩ (.slice none 0 0)).setCell ⟨w.heap.size, 1, none⟩ (.int .i64 0)).setCell ⟨w.heap.size, 2, none⟩ (.int .i64 0)).setCell ⟨w.heap.size, 3, none⟩ (.slice none 0 0)).setCell ⟨w.heap.size, 4, none⟩ (.int .i64 0)).setCell ⟨w.heap.size, 5, none⟩ (.slice none 0 0)).setCell ⟨w.heap.size, 6, none⟩ (.int .i64 0)).setCell ⟨w.heap.size, 7, none⟩ (.slice none 0 0)).setCell ⟨w.heap.size, 8, none⟩ (.int .i64 0)).setCell ⟨w.heap.size, 9, none⟩ (.slice none 0 0)).setCell ⟨w.heap.size, 10, none⟩ (.slice none 0 0))).cell? ⟨w.heap.size, 11, none⟩ = some (.slice none 0 0) := (D10.2 11).1
  have f11 := (D10.2 11).2
  have D11 : Cells ((((((((((((w4.setCell ⟨w.heap.size, 0, none⟩ (.slice none 0 0)).setCell ⟨w.heap.size, 1, none⟩ (.int .i64 0)).setCell ⟨w.heap.size, 2, none⟩ (.int .i64 0)).setCell ⟨w.heap.size, 3, none⟩ (.slice none 0 0)).setCell ⟨w.heap.size, 4, none⟩ (.int .i64 0)).setCell ⟨w.heap.size, 5, none⟩ (.slice none 0 0)).setCell ⟨w.heap.size, 6, none⟩ (.int .i64 0)).setCell ⟨w.heap.size, 7, none⟩ (.slice none 0 0)).setCell ⟨w.heap.size, 8, none⟩ (.int .i64 0)).setCell ⟨w.heap.size, 9, none⟩ (.slice none 0 0)).setCell ⟨w.heap.size, 10, none⟩ (.slice none 0 0)).setCell ⟨w.heap.size, 11, none⟩ (.slice none 0 0)) (w.heap.size) #[.slice none 0 0, .int .i64 0, .int .i64 0, .slice none 0 0, .int .i64 0, .slice none 0 0, .int .i64 0, .slice none 0 0, .int .i64 0, .slice none 0 0, .slice none 0 0, .slice none 0 0, .slice none 0 0] := D10.set 11 (by simp) (.slice none 0 0)
  clear D10
  have m12 : (((((((((((((w4.setCell ⟨w.heap.size, 0, none⟩ (.slice none 0 0)).setCell ⟨w.heap.size, 1, none⟩ (.int .i64 0)).setCell ⟨w.heap.size, 2, none⟩ (.int .i64 0)).setCell ⟨w.heap.size, 3, none⟩ (.slice none 0 0)).setCell ⟨w.heap.size, 4, none⟩ (.int .i64 0)).setCell ⟨w.heap.size, 5, none⟩ (.slice none 0 0)).setCell ⟨w.heap.size, 6, none⟩ (.int .i64 0)).setCell ⟨w.heap.size, 7, none⟩ (.slice none 0 0)).setCell ⟨w.heap.size, 8, none⟩ (.int .i64 0)).setCell ⟨w.heap.size, 9, none⟩ (.slice none 0 0)).setCell ⟨w.heap.size, 10, none⟩ (.slice none 0 0)).setCell ⟨w.heap.size, 11, none⟩ (.slice none 0 0))).cell? ⟨w.heap.size, 12, none⟩ = some (.slice none 0 0) := (D11.2 12).1
  have f12 := (D11.2 12).2
  have D12 : Cells (((((((((((((w4.setCell ⟨w.heap.size, 0, none⟩ (.slice none 0 0)).setCell ⟨w.heap.size, 1, none⟩ (.int .i64 0)).setCell ⟨w.heap.size, 2, none⟩ (.int .i64 0)).setCell ⟨w.heap.size, 3, none⟩ (.slice none 0 0)).setCell ⟨w.heap.size, 4, none⟩ (.int .i64 0)).setCell ⟨w.heap.size, 5, none⟩ (.slice none 0 0)).setCell ⟨w.heap.size, 6, none⟩ (.int .i64 0)).setCell ⟨w.heap.size, 7, none⟩ (.slice none 0 0)).setCell ⟨w.heap.size, 8, none⟩ (.int .i64 0)).setCell ⟨w.heap.size, 9, none⟩ (.slice none 0 0)).setCell ⟨w.heap.size, 10, none⟩ (.slice none 0 0)).setCell ⟨w.heap.size, 11, none⟩ (.slice none 0 0)).setCell ⟨w.heap.size, 12, none⟩ (.slice none 0 0)) (w.heap.size) #[.slice none 0 0, .int .i64 0, .int .i64 0, .slice none 0 0, .int .i64 0, .slice none 0 0, .int .i64 0, .slice none 0 0, .int .i64 0, .slice none 0 0, .slice none 0 0, .slice none 0 0, .slice none 0 0] := D11.set 12 (by simp) (.slice none 0 0)
  clear D11
  clear D12
  have k5 : Below w.heap.size w (((((((((((((w4.setCell ⟨w.heap.size, 0, none⟩ (.slice none 0 0)).setCell ⟨w.heap.size, 1, none⟩ (.int .i64 0)).setCell ⟨w.heap.size, 2, none⟩ (.int .i64 0)).setCell ⟨w.heap.size, 3, none⟩ (.slice none 0 0)).setCell ⟨w.heap.size, 4, none⟩ (.int .i64 0)).setCell ⟨w.heap.size, 5, none⟩ (.slice none 0 0)).setCell ⟨w.heap.size, 6, none⟩ (.int .i64 0)).setCell ⟨w.heap.size, 7, none⟩ (.slice none 0 0)).setCell ⟨w.heap.size, 8, none⟩ (.int .i64 0)).setCell ⟨w.heap.size, 9, none⟩ (.slice none 0 0)).setCell ⟨w.heap.size, 10, none⟩ (.slice none 0 0)).setCell ⟨w.heap.size, 11, none⟩ (.slice none 0 0)).setCell ⟨w.heap.size, 12, none⟩ (.slice none 0 0)) := ((((((((((((((((((((((((((k4).setCell (show w.heap.size ≤ w.heap.size by omega) _)).setCell (show w.heap.size ≤ w.heap.size by omega) _)).setCell (show w.heap.size ≤ w.heap.size by omega) _)).setCell (show w.heap.size ≤ w.heap.size by omega) _)).setCell (show w.heap.size ≤ w.heap.size by omega) _)).setCell (show w.heap.size ≤ w.heap.size by omega) _)).setCell (show w.heap.size ≤ w.heap.size by omega) _)).setCell (show w.heap.size ≤ w.heap.size by omega) _)).setCell (show w.heap.size ≤ w.heap.size by omega) _)).setCell (show w.heap.size ≤ w.heap.size by omega) _)).setCell (show w.heap.size ≤ w.heap.size by omega) _)).setCell (show w.heap.size ≤ w.heap.size by omega) _)).setCell (show w.heap.size ≤ w.heap.size by omega) _)
  have gE0 := Cells.setAll Z4 [.slice none 0 0, .int .i64 0, .int .i64 0, .slice none 0 0, .int .i64 0, .slice none 0 0, .int .i64 0, .slice none 0 0, .int .i64 0, .slice none 0 0, .slice none 0 0, .slice none 0 0, .slice none 0 0] rfl
  have zE : Cells (((((((((((((w4.setCell ⟨w.heap.size, 0, none⟩ (.slice none 0 0)).setCell ⟨w.heap.size, 1, none⟩ (.int .i64 0)).setCell ⟨w.heap.size, 2, none⟩ (.int .i64 0)).setCell ⟨w.heap.size, 3, none⟩ (.slice none 0 0)).setCell ⟨w.heap.size, 4, none⟩ (.int .i64 0)).setCell ⟨w.heap.size, 5, none⟩ (.slice none 0 0)).setCell ⟨w.heap.size, 6, none⟩ (.int .i64 0)).setCell ⟨w.heap.size, 7, none⟩ (.slice none 0 0)).setCell ⟨w.heap.size, 8, none⟩ (.int .i64 0)).setCell ⟨w.heap.size, 9, none⟩ (.slice none 0 0)).setCell ⟨w.heap.size, 10, none⟩ (.slice none 0 0)).setCell ⟨w.heap.size, 11, none⟩ (.slice none 0 0)).setCell ⟨w.heap.size, 12, none⟩ (.slice none 0 0)) w.heap.size #[.slice none 0 0, .int .i64 0, .int .i64 0, .slice none 0 0, .int .i64 0, .slice none 0 0, .int .i64 0, .slice none 0 0, .int .i64 0, .slice none 0 0, .slice none 0 0, .slice none 0 0, .slice none 0 0] := gE0
  have hR := run_loadVar_mid (P := Tryz.prog) _ w.heap.size 0 32 [.slice none 0 0, .int .i64 0, .int .i64 0, .slice none 0 0, .int .i64 0, .slice none 0 0, .int .i64 0, .slice none 0 0, .int .i64 0, .slice none 0 0, .slice none 0 0, .slice none 0 0, .slice none 0 0] _ (Cells.range zE) Tryz.underlying32 rfl (sizeWorld _ _ _ _ _ _ _ _ _ _ _ _ _)
  clear gE0 zE Z2 Z0
  go_wp2_with (fail)
  (try simp only [Exit.inBlock, Exit.then])
  refine bodyPost_ret (v := .tuple #[.agg #[.slice none 0 0, .int .i64 0, .int .i64 0, .slice none 0 0, .int .i64 0, .slice none 0 0, .int .i64 0, .slice none 0 0, .int .i64 0, .slice none 0 0, .slice none 0 0, .slice none 0 0, .slice none 0 0], .bool false]) ?_ rfl ⟨rfl, k5⟩
  simp [results, asAddr, hR]
set_option maxHeartbeats 8000000 in
theorem implWorldNew_no2 (p q : Option Addr) (c m d : Nat) (ys : List Int) (w : World) (hE : ErrTab w) (hm : m ≤ 1048576) (hy : ys.length = m) (h : BytesIn w q m ys) (hb : ∀ x ∈ ys, 0 ≤ x ∧ x < 256) (hne : ¬ m = 32) : Calls Tryz.prog 7 #[.slice p 32 c, .slice q m d] w fun z w' => z = .returned (.tuple #[.agg #[.slice none 0 0, .int .i64 0, .int .i64 0, .slice none 0 0, .int .i64 0, .slice none 0 0, .int .i64 0, .slice none 0 0, .int .i64 0, .slice none 0 0, .slice none 0 0, .slice none 0 0, .slice none 0 0], .bool false]) ∧ Below w.heap.size w w' := by
  have bW := buildWN
  have bR := buildRN
  have bZ := buildZN
  have PN := fun X => implPostNew_any X
  have WO := fun X (b : Below w.heap.size w X) => implWorldOk_32 p q c m d ys X (hE.on b) hm hy (in_below h b) hb
  go_enter Tryz.func7, Tryz.ntmps7
  go_wp2_with (fail)
  obtain ⟨W0, hW0⟩ : ∃ W0, w.alloc (.cells #[.slice none 0 0, .int .i64 0, .int .i64 0, .slice none 0 0, .int .i64 0, .slice none 0 0, .int .i64 0, .slice none 0 0, .int .i64 0, .slice none 0 0, .slice none 0 0, .slice none 0 0, .slice none 0 0] 32) = W0 := ⟨_, rfl⟩
  have Z0 : Cells W0 w.heap.size #[.slice none 0 0, .int .i64 0, .int .i64 0, .slice none 0 0, .int .i64 0, .slice none 0 0, .int .i64 0, .slice none 0 0, .int .i64 0, .slice none 0 0, .slice none 0 0, .slice none 0 0, .slice none 0 0] := by rw [← hW0]; exact Cells.made _ _ _
  have k0 : Below w.heap.size w W0 := by rw [← hW0]; exact made_below _ _ (Below.refl _ _)
  rw [hW0]
  clear hW0
  refine (PN _).mono ?_
  rintro z w2 ⟨rfl, b2⟩
  have Z2 := Z0.on b2
  have k2 := below_on k0 b2
  clear PN
  go_wp2_with (fail)
  refine (WO _ (below_on k2 (made_below _ _ (Below.refl _ _)))).mono ?_
  rw [decide_eq_false hne]
  rintro z w4 ⟨rfl, b4⟩
  have b3 := made_below _ _ b4
  have Z4 := Z2.on b3
  have k4 := below_on k2 b3
  have m0 : (w4).cell? ⟨w.heap.size, 0, none⟩ = some (.slice none 0 0) := (Z4.2 0).1
  have f0 := (Z4.2 0).2
  have D0 : Cells (w4.setCell ⟨w.heap.size, 0, none⟩ (.slice none 0 0)) (w.heap.size) #[.slice none 0 0, .int .i64 0, .int .i64 0, .slice none 0 0, .int .i64 0, .slice none 0 0, .int .i64 0, .slice none 0 0, .int .i64 0, .slice none 0 0, .slice none 0 0, .slice none 0 0, .slice none 0 0] := Z4.set 0 (by simp) (.slice none 0 0)
  have m1 : ((w4.setCell ⟨w.heap.size, 0, none⟩ (.slice none 0 0))).cell? ⟨w.heap.size, 1, none⟩ = some (.int .i64 0) := (D0.2 1).1
  have f1 := (D0.2 1).2
  have D1 : Cells ((w4.setCell ⟨w.heap.size, 0, none⟩ (.slice none 0 0)).setCell ⟨w.heap.size, 1, none⟩ (.int .i64 0)) (w.heap.size) #[.slice none 0 0, .int .i64 0, .int .i64 0, .slice none 0 0, .int .i64 0, .slice none 0 0, .int .i64 0, .slice none 0 0, .int .i64 0, .slice none 0 0, .slice none 0 0, .slice none 0 0, .slice none 0 0] := D0.set 1 (by simp) (.int .i64 0)
  clear D0
  have m2 : (((w4.setCell ⟨w.heap.size, 0, none⟩ (.slice none 0 0)).setCell ⟨w.heap.size, 1, none⟩ (.int .i64 0))).cell? ⟨w.heap.size, 2, none⟩ = some (.int .i64 0) := (D1.2 2).1
  have f2 := (D1.2 2).2
  have D2 : Cells (((w4.setCell ⟨w.heap.size, 0, none⟩ (.slice none 0 0)).setCell ⟨w.heap.size, 1, none⟩ (.int .i64 0)).setCell ⟨w.heap.size, 2, none⟩ (.int .i64 0)) (w.heap.size) #[.slice none 0 0, .int .i64 0, .int .i64 0, .slice none 0 0, .int .i64 0, .slice none 0 0, .int .i64 0, .slice none 0 0, .int .i64 0, .slice none 0 0, .slice none 0 0, .slice none 0 0, .slice none 0 0] := D1.set 2 (by simp) (.int .i64 0)
  clear D1
  have m3 : ((((w4.setCell ⟨w.heap.size, 0, none⟩ (.slice none 0 0)).setCell ⟨w.heap.size, 1, none⟩ (.int .i64 0)).setCell ⟨w.heap.size, 2, none⟩ (.int .i64 0))).cell? ⟨w.heap.size, 3, none⟩ = some (.slice none 0 0) := (D2.2 3).1
  have f3 := (D2.2 3).2
  have D3 : Cells ((((w4.setCell ⟨w.heap.size, 0, none⟩ (.slice none 0 0)).setCell ⟨w.heap.size, 1, none⟩ (.int .i64 0)).setCell ⟨w.heap.size, 2, none⟩ (.int .i64 0)).setCell ⟨w.heap.size, 3, none⟩ (.slice none 0 0)) (w.heap.size) #[.slice none 0 0, .int .i64 0, .int .i64 0, .slice none 0 0, .int .i64 0, .slice none 0 0, .int .i64 0, .slice none 0 0, .int .i64 0, .slice none 0 0, .slice none 0 0, .slice none 0 0, .slice none 0 0] := D2.set 3 (by simp) (.slice none 0 0)
  clear D2
  have m4 : (((((w4.setCell ⟨w.heap.size, 0, none⟩ (.slice none 0 0)).setCell ⟨w.heap.size, 1, none⟩ (.int .i64 0)).setCell ⟨w.heap.size, 2, none⟩ (.int .i64 0)).setCell ⟨w.heap.size, 3, none⟩ (.slice none 0 0))).cell? ⟨w.heap.size, 4, none⟩ = some (.int .i64 0) := (D3.2 4).1
  have f4 := (D3.2 4).2
  have D4 : Cells (((((w4.setCell ⟨w.heap.size, 0, none⟩ (.slice none 0 0)).setCell ⟨w.heap.size, 1, none⟩ (.int .i64 0)).setCell ⟨w.heap.size, 2, none⟩ (.int .i64 0)).setCell ⟨w.heap.size, 3, none⟩ (.slice none 0 0)).setCell ⟨w.heap.size, 4, none⟩ (.int .i64 0)) (w.heap.size) #[.slice none 0 0, .int .i64 0, .int .i64 0, .slice none 0 0, .int .i64 0, .slice none 0 0, .int .i64 0, .slice none 0 0, .int .i64 0, .slice none 0 0, .slice none 0 0, .slice none 0 0, .slice none 0 0] := D3.set 4 (by simp) (.int .i64 0)
  clear D3
  have m5 : ((((((w4.setCell ⟨w.heap.size, 0, none⟩ (.slice none 0 0)).setCell ⟨w.heap.size, 1, none⟩ (.int .i64 0)).setCell ⟨w.heap.size, 2, none⟩ (.int .i64 0)).setCell ⟨w.heap.size, 3, none⟩ (.slice none 0 0)).setCell ⟨w.heap.size, 4, none⟩ (.int .i64 0))).cell? ⟨w.heap.size, 5, none⟩ = some (.slice none 0 0) := (D4.2 5).1
  have f5 := (D4.2 5).2
  have D5 : Cells ((((((w4.setCell ⟨w.heap.size, 0, none⟩ (.slice none 0 0)).setCell ⟨w.heap.size, 1, none⟩ (.int .i64 0)).setCell ⟨w.heap.size, 2, none⟩ (.int .i64 0)).setCell ⟨w.heap.size, 3, none⟩ (.slice none 0 0)).setCell ⟨w.heap.size, 4, none⟩ (.int .i64 0)).setCell ⟨w.heap.size, 5, none⟩ (.slice none 0 0)) (w.heap.size) #[.slice none 0 0, .int .i64 0, .int .i64 0, .slice none 0 0, .int .i64 0, .slice none 0 0, .int .i64 0, .slice none 0 0, .int .i64 0, .slice none 0 0, .slice none 0 0, .slice none 0 0, .slice none 0 0] := D4.set 5 (by simp) (.slice none 0 0)
  clear D4
  have m6 : (((((((w4.setCell ⟨w.heap.size, 0, none⟩ (.slice none 0 0)).setCell ⟨w.heap.size, 1, none⟩ (.int .i64 0)).setCell ⟨w.heap.size, 2, none⟩ (.int .i64 0)).setCell ⟨w.heap.size, 3, none⟩ (.slice none 0 0)).setCell ⟨w.heap.size, 4, none⟩ (.int .i64 0)).setCell ⟨w.heap.size, 5, none⟩ (.slice none 0 0))).cell? ⟨w.heap.size, 6, none⟩ = some (.int .i64 0) := (D5.2 6).1
  have f6 := (D5.2 6).2
  have D6 : Cells (((((((w4.setCell ⟨w.heap.size, 0, none⟩ (.slice none 0 0)).setCell ⟨w.heap.size, 1, none⟩ (.int .i64 0)).setCell ⟨w.heap.size, 2, none⟩ (.int .i64 0)).setCell ⟨w.heap.size, 3, none⟩ (.slice none 0 0)).setCell ⟨w.heap.size, 4, none⟩ (.int .i64 0)).setCell ⟨w.heap.size, 5, none⟩ (.slice none 0 0)).setCell ⟨w.heap.size, 6, none⟩ (.int .i64 0)) (w.heap.size) #[.slice none 0 0, .int .i64 0, .int .i64 0, .slice none 0 0, .int .i64 0, .slice none 0 0, .int .i64 0, .slice none 0 0, .int .i64 0, .slice none 0 0, .slice none 0 0, .slice none 0 0, .slice none 0 0] := D5.set 6 (by simp) (.int .i64 0)
  clear D5
  have m7 : ((((((((w4.setCell ⟨w.heap.size, 0, none⟩ (.slice none 0 0)).setCell ⟨w.heap.size, 1, none⟩ (.int .i64 0)).setCell ⟨w.heap.size, 2, none⟩ (.int .i64 0)).setCell ⟨w.heap.size, 3, none⟩ (.slice none 0 0)).setCell ⟨w.heap.size, 4, none⟩ (.int .i64 0)).setCell ⟨w.heap.size, 5, none⟩ (.slice none 0 0)).setCell ⟨w.heap.size, 6, none⟩ (.int .i64 0))).cell? ⟨w.heap.size, 7, none⟩ = some (.slice none 0 0) := (D6.2 7).1
  have f7 := (D6.2 7).2
  have D7 : Cells ((((((((w4.setCell ⟨w.heap.size, 0, none⟩ (.slice none 0 0)).setCell ⟨w.heap.size, 1, none⟩ (.int .i64 0)).setCell ⟨w.heap.size, 2, none⟩ (.int .i64 0)).setCell ⟨w.heap.size, 3, none⟩ (.slice none 0 0)).setCell ⟨w.heap.size, 4, none⟩ (.int .i64 0)).setCell ⟨w.heap.size, 5, none⟩ (.slice none 0 0)).setCell ⟨w.heap.size, 6, none⟩ (.int .i64 0)).setCell ⟨w.heap.size, 7, none⟩ (.slice none 0 0)) (w.heap.size) #[.slice none 0 0, .int .i64 0, .int .i64 0, .slice none 0 0, .int .i64 0, .slice none 0 0, .int .i64 0, .slice none 0 0, .int .i64 0, .slice none 0 0, .slice none 0 0, .slice none 0 0, .slice none 0 0] := D6.set 7 (by simp) (.slice none 0 0)
  clear D6
  have m8 : (((((((((w4.setCell ⟨w.heap.size, 0, none⟩ (.slice none 0 0)).setCell ⟨w.heap.size, 1, none⟩ (.int .i64 0)).setCell ⟨w.heap.size, 2, none⟩ (.int .i64 0)).setCell ⟨w.heap.size, 3, none⟩ (.slice none 0 0)).setCell ⟨w.heap.size, 4, none⟩ (.int .i64 0)).setCell ⟨w.heap.size, 5, none⟩ (.slice none 0 0)).setCell ⟨w.heap.size, 6, none⟩ (.int .i64 0)).setCell ⟨w.heap.size, 7, none⟩ (.slice none 0 0))).cell? ⟨w.heap.size, 8, none⟩ = some (.int .i64 0) := (D7.2 8).1
  have f8 := (D7.2 8).2
  have D8 : Cells (((((((((w4.setCell ⟨w.heap.size, 0, none⟩ (.slice none 0 0)).setCell ⟨w.heap.size, 1, none⟩ (.int .i64 0)).setCell ⟨w.heap.size, 2, none⟩ (.int .i64 0)).setCell ⟨w.heap.size, 3, none⟩ (.slice none 0 0)).setCell ⟨w.heap.size, 4, none⟩ (.int .i64 0)).setCell ⟨w.heap.size, 5, none⟩ (.slice none 0 0)).setCell ⟨w.heap.size, 6, none⟩ (.int .i64 0)).setCell ⟨w.heap.size, 7, none⟩ (.slice none 0 0)).setCell ⟨w.heap.size, 8, none⟩ (.int .i64 0)) (w.heap.size) #[.slice none 0 0, .int .i64 0, .int .i64 0, .slice none 0 0, .int .i64 0, .slice none 0 0, .int .i64 0, .slice none 0 0, .int .i64 0, .slice none 0 0, .slice none 0 0, .slice none 0 0, .slice none 0 0] := D7.set 8 (by simp) (.int .i64 0)
  clear D7
  have m9 : ((((((((((w4.setCell ⟨w.heap.size, 0, none⟩ (.slice none 0 0)).setCell ⟨w.heap.size, 1, none⟩ (.int .i64 0)).setCell ⟨w.heap.size, 2, none⟩ (.int .i64 0)).setCell ⟨w.heap.size, 3, none⟩ (.slice none 0 0)).setCell ⟨w.heap.size, 4, none⟩ (.int .i64 0)).setCell ⟨w.heap.size, 5, none⟩ (.slice none 0 0)).setCell ⟨w.heap.size, 6, none⟩ (.int .i64 0)).setCell ⟨w.heap.size, 7, none⟩ (.slice none 0 0)).setCell ⟨w.heap.size, 8, none⟩ (.int .i64 0))).cell? ⟨w.heap.size, 9, none⟩ = some (.slice none 0 0) := (D8.2 9).1
  have f9 := (D8.2 9).2
  have D9 : Cells ((((((((((w4.setCell ⟨w.heap.size, 0, none⟩ (.slice none 0 0)).setCell ⟨w.heap.size, 1, none⟩ (.int .i64 0)).setCell ⟨w.heap.size, 2, none⟩ (.int .i64 0)).setCell ⟨w.heap.size, 3, none⟩ (.slice none 0 0)).setCell ⟨w.heap.size, 4, none⟩ (.int .i64 0)).setCell ⟨w.heap.size, 5, none⟩ (.slice none 0 0)).setCell ⟨w.heap.size, 6, none⟩ (.int .i64 0)).setCell ⟨w.heap.size, 7, none⟩ (.slice none 0 0)).setCell ⟨w.heap.size, 8, none⟩ (.int .i64 0)).setCell ⟨w.heap.size, 9, none⟩ (.slice none 0 0)) (w.heap.size) #[.slice none 0 0, .int .i64 0, .int .i64 0, .slice none 0 0, .int .i64 0, .slice none 0 0, .int .i64 0, .slice none 0 0, .int .i64 0, .slice none 0 0, .slice none 0 0, .slice none 0 0, .slice none 0 0] := D8.set 9 (by simp) (.slice none 0 0)
  clear D8
  have m10 : (((((((((((w4.setCell ⟨w.heap.size, 0, none⟩ (.slice none 0 0)).setCell ⟨w.heap.size, 1, none⟩ (.int .i64 0)).setCell ⟨w.heap.size, 2, none⟩ (.int .i64 0)).setCell ⟨w.heap.size, 3, none⟩ (.slice none 0 0)).setCell ⟨w.heap.size, 4, none⟩ (.int .i64 0)).setCell ⟨w.heap.size, 5, none⟩ (.slice none 0 0)).setCell ⟨w.heap.size, 6, none⟩ (.int .i64 0)).setCell ⟨w.heap.size, 7, none⟩ (.slice none 0 0)).setCell ⟨w.heap.size, 8, none⟩ (.int .i64 0)).setCell ⟨w.heap.size, 9, none⟩ (.slice none 0 0))).cell? ⟨w.heap.size, 10, none⟩ = some (.slice none 0 0) := (D9.2 10).1
  have f10 := (D9.2 10).2
  have D10 : Cells (((((((((((w4.setCell ⟨w.heap.size, 0, none⟩ (.slice none 0 0)).setCell ⟨w.heap.size, 1, none⟩ (.int .i64 0)).setCell ⟨w.heap.size, 2, none⟩ (.int .i64 0)).setCell ⟨w.heap.size, 3, none⟩ (.slice none 0 0)).setCell ⟨w.heap.size, 4, none⟩ (.int .i64 0)).setCell ⟨w.heap.size, 5, none⟩ (.slice none 0 0)).setCell ⟨w.heap.size, 6, none⟩ (.int .i64 0)).setCell ⟨w.heap.size, 7, none⟩ (.slice none 0 0)).setCell ⟨w.heap.size, 8, none⟩ (.int .i64 0)).setCell ⟨w.heap.size, 9, none⟩ (.slice none 0 0)).setCell ⟨w.heap.size, 10, none⟩ (.slice none 0 0)) (w.heap.size) #[.slice none 0 0, .int .i64 0, .int .i64 0, .slice none 0 0, .int .i64 0, .slice none 0 0, .int .i64 0, .slice none 0 0, .int .i64 0, .slice none 0 0, .slice none 0 0, .slice none 0 0, .slice none 0 0] := D9.set 10 (by simp) (.slice none 0 0)
  clear D9
  have m11 : ((((((((((((w4.setCell ⟨w.heap.size, 0, none⟩ (.slice none 0 0)).setCell ⟨w.heap.size, 1, none⟩ (.int .i64 0)).setCell ⟨w.heap.size, 2, none⟩ (.int .i64 0)).setCell ⟨w.heap.size, 3, none⟩ (.slice none 0 0)).setCell ⟨w.heap.size, 4, none⟩ (.int .i64 0)).setCell ⟨w.heap.size, 5, none⟩ (.slice none 0 0)).setCell ⟨w.heap.size, 6, none⟩ (.int .i64 0)).setCell ⟨w.heap.size, 7, none⟩ (.slice none 0 0)).setCell ⟨w.heap.size, 8, none⟩ (.int .i64 0)).setCell ⟨w.heap.size, 9, none⟩ (.slice none 0 0)).setCell ⟨w.heap.size, 10, none⟩ (.slice none 0 0))).cell? ⟨w.heap.size, 11, none⟩ = some (.slice none 0 0) := (D10.2 11).1
  have f11 := (D10.2 11).2
  have D11 : Cells ((((((((((((w4.setCell ⟨w.heap.size, 0, none⟩ (.slice none 0 0)).setCell ⟨w.heap.size, 1, none⟩ (.int .i64 0)).setCell ⟨w.heap.size, 2, none⟩ (.int .i64 0)).setCell ⟨w.heap.size, 3, none⟩ (.slice none 0 0)).setCell ⟨w.heap.size, 4, none⟩ (.int .i64 0)).setCell ⟨w.heap.size, 5, none⟩ (.slice none 0 0)).setCell ⟨w.heap.size, 6, none⟩ (.int .i64 0)).setCell ⟨w.heap.size, 7, none⟩ (.slice none 0 0)).setCell ⟨w.heap.size, 8, none⟩ (.int .i64 0)).setCell ⟨w.heap.size, 9, none⟩ (.slice none 0 0)).setCell ⟨w.heap.size, 10, none⟩ (.slice none 0 0)).setCell ⟨w.heap.size, 11, none⟩ (.slice none 0 0)) (w.heap.size) #[.slice none 0 0, .int .i64 0, .int .i64 0, .slice none 0 0, .int .i64 0, .slice none 0 0, .int .i64 0, .slice none 0 0, .int .i64 0, .slice none 0 0, .slice none 0 0, .slice none 0 0, .slice none 0 0] := D10.set 11 (by simp) (.slice none 0 0)
  clear D10
  have m12 : (((((((((((((w4.setCell ⟨w.heap.size, 0, none⟩ (.slice none 0 0)).setCell ⟨w.heap.size, 1, none⟩ (.int .i64 0)).setCell ⟨w.heap.size, 2, none⟩ (.int .i64 0)).setCell ⟨w.heap.size, 3, none⟩ (.slice none 0 0)).setCell ⟨w.heap.size, 4, none⟩ (.int .i64 0)).setCell ⟨w.heap.size, 5, none⟩ (.slice none 0 0)).setCell ⟨w.heap.size, 6, none⟩ (.int .i64 0)).setCell ⟨w.heap.size, 7, none⟩ (.slice none 0 0)).setCell ⟨w.heap.size, 8, none⟩ (.int .i64 0)).setCell ⟨w.heap.size, 9, none⟩ (.slice none 0 0)).setCell ⟨w.heap.size, 10, none⟩ (.slice none 0 0)).setCell ⟨w.heap.size, 11, none⟩ (.slice none 0 0))).cell? ⟨w.heap.size, 12, none⟩ = some (.slice none 0 0) := (D11.2 12).1
  have f12 := (D11.2 12).2
  have D12 : Cells (((((((((((((w4.setCell ⟨w.heap.size, 0, none⟩ (.slice none 0 0)).setCell ⟨w.heap.size, 1, none⟩ (.int .i64 0)).setCell ⟨w.heap.size, 2, none⟩ (.int .i64 0)).setCell ⟨w.heap.size, 3, none⟩ (.slice none 0 0)).setCell ⟨w.heap.size, 4, none⟩ (.int .i64 0)).setCell ⟨w.heap.size, 5, none⟩ (.slice none 0 0)).setCell ⟨w.heap.size, 6, none⟩ (.int .i64 0)).setCell ⟨w.heap.size, 7, none⟩ (.slice none 0 0)).setCell ⟨w.heap.size, 8, none⟩ (.int .i64 0)).setCell ⟨w.heap.size, 9, none⟩ (.slice none 0 0)).setCell ⟨w.heap.size, 10, none⟩ (.slice none 0 0)).setCell ⟨w.heap.size, 11, none⟩ (.slice none 0 0)).setCell ⟨w.heap.size, 12, none⟩ (.slice none 0 0)) (w.heap.size) #[.slice none 0 0, .int .i64 0, .int .i64 0, .slice none 0 0, .int .i64 0, .slice none 0 0, .int .i64 0, .slice none 0 0, .int .i64 0, .slice none 0 0, .slice none 0 0, .slice none 0 0, .slice none 0 0] := D11.set 12 (by simp) (.slice none 0 0)
  clear D11
  clear D12
  have k5 : Below w.heap.size w (((((((((((((w4.setCell ⟨w.heap.size, 0, none⟩ (.slice none 0 0)).setCell ⟨w.heap.size, 1, none⟩ (.int .i64 0)).setCell ⟨w.heap.size, 2, none⟩ (.int .i64 0)).setCell ⟨w.heap.size, 3, none⟩ (.slice none 0 0)).setCell ⟨w.heap.size, 4, none⟩ (.int .i64 0)).setCell ⟨w.heap.size, 5, none⟩ (.slice none 0 0)).setCell ⟨w.heap.size, 6, none⟩ (.int .i64 0)).setCell ⟨w.heap.size, 7, none⟩ (.slice none 0 0)).setCell ⟨w.heap.size, 8, none⟩ (.int .i64 0)).setCell ⟨w.heap.size, 9, none⟩ (.slice none 0 0)).setCell ⟨w.heap.size, 10, none⟩ (.slice none 0 0)).setCell ⟨w.heap.size, 11, none⟩ (.slice none 0 0)).setCell ⟨w.heap.size, 12, none⟩ (.slice none 0 0)) := ((((((((((((((((((((((((((k4).setCell (show w.heap.size ≤ w.heap.size by omega) _)).setCell (show w.heap.size ≤ w.heap.size by omega) _)).setCell (show w.heap.size ≤ w.heap.size by omega) _)).setCell (show w.heap.size ≤ w.heap.size by omega) _)).setCell (show w.heap.size ≤ w.heap.size by omega) _)).setCell (show w.heap.size ≤ w.heap.size by omega) _)).setCell (show w.heap.size ≤ w.heap.size by omega) _)).setCell (show w.heap.size ≤ w.heap.size by omega) _)).setCell (show w.heap.size ≤ w.heap.size by omega) _)).setCell (show w.heap.size ≤ w.heap.size by omega) _)).setCell (show w.heap.size ≤ w.heap.size by omega) _)).setCell (show w.heap.size ≤ w.heap.size by omega) _)).setCell (show w.heap.size ≤ w.heap.size by omega) _)
  have gE0 := Cells.setAll Z4 [.slice none 0 0, .int .i64 0, .int .i64 0, .slice none 0 0, .int .i64 0, .slice none 0 0, .int .i64 0, .slice none 0 0, .int .i64 0, .slice none 0 0, .slice none 0 0, .slice none 0 0, .slice none 0 0] rfl
  have zE : Cells (((((((((((((w4.setCell ⟨w.heap.size, 0, none⟩ (.slice none 0 0)).setCell ⟨w.heap.size, 1, none⟩ (.int .i64 0)).setCell ⟨w.heap.size, 2, none⟩ (.int .i64 0)).setCell ⟨w.heap.size, 3, none⟩ (.slice none 0 0)).setCell ⟨w.heap.size, 4, none⟩ (.int .i64 0)).setCell ⟨w.heap.size, 5, none⟩ (.slice none 0 0)).setCell ⟨w.heap.size, 6, none⟩ (.int .i64 0)).setCell ⟨w.heap.size, 7, none⟩ (.slice none 0 0)).setCell ⟨w.heap.size, 8, none⟩ (.int .i64 0)).setCell ⟨w.heap.size, 9, none⟩ (.slice none 0 0)).setCell ⟨w.heap.size, 10, none⟩ (.slice none 0 0)).setCell ⟨w.heap.size, 11, none⟩ (.slice none 0 0)).setCell ⟨w.heap.size, 12, none⟩ (.slice none 0 0)) w.heap.size #[.slice none 0 0, .int .i64 0, .int .i64 0, .slice none 0 0, .int .i64 0, .slice none 0 0, .int .i64 0, .slice none 0 0, .int .i64 0, .slice none 0 0, .slice none 0 0, .slice none 0 0, .slice none 0 0] := gE0
  have hR := run_loadVar_mid (P := Tryz.prog) _ w.heap.size 0 32 [.slice none 0 0, .int .i64 0, .int .i64 0, .slice none 0 0, .int .i64 0, .slice none 0 0, .int .i64 0, .slice none 0 0, .int .i64 0, .slice none 0 0, .slice none 0 0, .slice none 0 0, .slice none 0 0] _ (Cells.range zE) Tryz.underlying32 rfl (sizeWorld _ _ _ _ _ _ _ _ _ _ _ _ _)
  clear gE0 zE Z2 Z0
  go_wp2_with (fail)
  (try simp only [Exit.inBlock, Exit.then])
  refine bodyPost_ret (v := .tuple #[.agg #[.slice none 0 0, .int .i64 0, .int .i64 0, .slice none 0 0, .int .i64 0, .slice none 0 0, .int .i64 0, .slice none 0 0, .int .i64 0, .slice none 0 0, .slice none 0 0, .slice none 0 0, .slice none 0 0], .bool false]) ?_ rfl ⟨rfl, k5⟩
  simp [results, asAddr, hR]
set_option maxHeartbeats 8000000 in
theorem implWorldNew_32 (p q : Option Addr) (c d : Nat) (xs ys : List Int) (w : World) (hE : ErrTab w) (hx : xs.length = 32) (h0 : BytesIn w p 32 xs) (hy : ys.length = 32) (h : BytesIn w q 32 ys) (hb : ∀ x ∈ ys, 0 ≤ x ∧ x < 256) : Calls Tryz.prog 7 #[.slice p 32 c, .slice q 32 d] w fun z w' => ∃ p' c' qa ca qb cb p4 c4 qc cc qd cd k, z = .returned (.tuple #[.agg #[.slice p' 32 c', .int .i64 0, .int .i64 0, .slice qa 0 ca, .int .i64 0, .slice qb 0 cb, .int .i64 0, .slice p4 32 c4, .int .i64 0, .slice qc 0 cc, .slice qd 0 cd, .slice none 0 0, .slice none 0 0], .bool true]) ∧ Own 5 w' w.heap.size k (.slice p' 32 c') 32 xs ∧ Own 5 w' k w'.heap.size (.slice p4 32 c4) 32 ys ∧ Below w.heap.size w w' := by
  have bW := buildWN
  have bR := buildRN
  have bZ := buildZN
  have PN := fun X => implPostNew_any X
  have WO := fun X (b : Below w.heap.size w X) => implWorldOk_32 p q c 32 d ys X (hE.on b) (by decide) hy (in_below h b) hb
  go_enter Tryz.func7, Tryz.ntmps7
  go_wp2_with (fail)
  obtain ⟨W0, hW0⟩ : ∃ W0, w.alloc (.cells #[.slice none 0 0, .int .i64 0, .int .i64 0, .slice none 0 0, .int .i64 0, .slice none 0 0, .int .i64 0, .slice none 0 0, .int .i64 0, .slice none 0 0, .slice none 0 0, .slice none 0 0, .slice none 0 0] 32) = W0 := ⟨_, rfl⟩
  have Z0 : Cells W0 w.heap.size #[.slice none 0 0, .int .i64 0, .int .i64 0, .slice none 0 0, .int .i64 0, .slice none 0 0, .int .i64 0, .slice none 0 0, .int .i64 0, .slice none 0 0, .slice none 0 0, .slice none 0 0, .slice none 0 0] := by rw [← hW0]; exact Cells.made _ _ _
  have k0 : Below w.heap.size w W0 := by rw [← hW0]; exact made_below _ _ (Below.refl _ _)
  rw [hW0]
  clear hW0
  refine (PN _).mono ?_
  rintro z w2 ⟨rfl, b2⟩
  have Z2 := Z0.on b2
  have k2 := below_on k0 b2
  clear PN
  go_wp2_with (fail)
  refine (WO _ (below_on k2 (made_below _ _ (Below.refl _ _)))).mono ?_
  (first | rw [decide_eq_true rfl] | rw [decide_eq_true trivial] | simp only [decide_true])
  rintro z w4 ⟨rfl, b4⟩
  have b3 := made_below _ _ b4
  have Z4 := Z2.on b3
  have k4 := below_on k2 b3
  have C4 := (Cells.made w2 #[.slice p 32 c, .int .i64 0, .int .i64 0, .slice none 0 0, .int .i64 0, .slice none 0 0, .int .i64 0, .slice q 32 d, .int .i64 0, .slice none 0 0, .slice none 0 0, .slice none 0 0, .slice none 0 0] 32).on b4
  have c_0 := (C4.2 0).1
  have c_1 := (C4.2 1).1
  have c_2 := (C4.2 2).1
  have c_3 := (C4.2 3).1
  have c_4 := (C4.2 4).1
  have c_5 := (C4.2 5).1
  have c_6 := (C4.2 6).1
  have c_7 := (C4.2 7).1
  have c_8 := (C4.2 8).1
  have c_9 := (C4.2 9).1
  have c_10 := (C4.2 10).1
  have c_11 := (C4.2 11).1
  have c_12 := (C4.2 12).1
  have CW := fun X (b : Below w.heap.size w X) => copiedWorld_new p q 32 c 32 d xs ys X (by decide) hx (in_below h0 b) (by decide) hy (in_below h b)
  clear bW bR bZ WO
  go_wp2_with (fail)
  refine (CW _ k4).mono ?_
  rintro z w5 ⟨p2, c2, qa, ca, qb, cb, p4, c4, qc, cc, qd, cd, k, rfl, o2, o4, b5⟩
  have Z5 := Z4.on b5
  have kk := below_on k4 b5
  have sz : w.heap.size < w4.heap.size := Z4.1
  clear CW C4 c_0 c_1 c_2 c_3 c_4 c_5 c_6 c_7 c_8 c_9 c_10 c_11 c_12
  have m0 : (w5).cell? ⟨w.heap.size, 0, none⟩ = some (.slice none 0 0) := (Z5.2 0).1
  have f0 := (Z5.2 0).2
  have D0 : Cells (w5.setCell ⟨w.heap.size, 0, none⟩ (.slice p2 32 c2)) (w.heap.size) #[.slice p2 32 c2, .int .i64 0, .int .i64 0, .slice none 0 0, .int .i64 0, .slice none 0 0, .int .i64 0, .slice none 0 0, .int .i64 0, .slice none 0 0, .slice none 0 0, .slice none 0 0, .slice none 0 0] := Z5.set 0 (by simp) (.slice p2 32 c2)
  have m1 : ((w5.setCell ⟨w.heap.size, 0, none⟩ (.slice p2 32 c2))).cell? ⟨w.heap.size, 1, none⟩ = some (.int .i64 0) := (D0.2 1).1
  have f1 := (D0.2 1).2
  have D1 : Cells ((w5.setCell ⟨w.heap.size, 0, none⟩ (.slice p2 32 c2)).setCell ⟨w.heap.size, 1, none⟩ (.int .i64 0)) (w.heap.size) #[.slice p2 32 c2, .int .i64 0, .int .i64 0, .slice none 0 0, .int .i64 0, .slice none 0 0, .int .i64 0, .slice none 0 0, .int .i64 0, .slice none 0 0, .slice none 0 0, .slice none 0 0, .slice none 0 0] := D0.set 1 (by simp) (.int .i64 0)
  clear D0
  have m2 : (((w5.setCell ⟨w.heap.size, 0, none⟩ (.slice p2 32 c2)).setCell ⟨w.heap.size, 1, none⟩ (.int .i64 0))).cell? ⟨w.heap.size, 2, none⟩ = some (.int .i64 0) := (D1.2 2).1
  have f2 := (D1.2 2).2
  have D2 : Cells (((w5.setCell ⟨w.heap.size, 0, none⟩ (.slice p2 32 c2)).setCell ⟨w.heap.size, 1, none⟩ (.int .i64 0)).setCell ⟨w.heap.size, 2, none⟩ (.int .i64 0)) (w.heap.size) #[.slice p2 32 c2, .int .i64 0, .int .i64 0, .slice none 0 0, .int .i64 0, .slice none 0 0, .int .i64 0, .slice none 0 0, .int .i64 0, .slice none 0 0, .slice none 0 0, .slice none 0 0, .slice none 0 0] := D1.set 2 (by simp) (.int .i64 0)
  clear D1
  have m3 : ((((w5.setCell ⟨w.heap.size, 0, none⟩ (.slice p2 32 c2)).setCell ⟨w.heap.size, 1, none⟩ (.int .i64 0)).setCell ⟨w.heap.size, 2, none⟩ (.int .i64 0))).cell? ⟨w.heap.size, 3, none⟩ = some (.slice none 0 0) := (D2.2 3).1
  have f3 := (D2.2 3).2
  have D3 : Cells ((((w5.setCell ⟨w.heap.size, 0, none⟩ (.slice p2 32 c2)).setCell ⟨w.heap.size, 1, none⟩ (.int .i64 0)).setCell ⟨w.heap.size, 2, none⟩ (.int .i64 0)).setCell ⟨w.heap.size, 3, none⟩ (.slice qa 0 ca)) (w.heap.size) #[.slice p2 32 c2, .int .i64 0, .int .i64 0, .slice qa 0 ca, .int .i64 0, .slice none 0 0, .int .i64 0, .slice none 0 0, .int .i64 0, .slice none 0 0, .slice none 0 0, .slice none 0 0, .slice none 0 0] := D2.set 3 (by simp) (.slice qa 0 ca)
  clear D2
  have m4 : (((((w5.setCell ⟨w.heap.size, 0, none⟩ (.slice p2 32 c2)).setCell ⟨w.heap.size, 1, none⟩ (.int .i64 0)).setCell ⟨w.heap.size, 2, none⟩ (.int .i64 0)).setCell ⟨w.heap.size, 3, none⟩ (.slice qa 0 ca))).cell? ⟨w.heap.size, 4, none⟩ = some (.int .i64 0) := (D3.2 4).1
  have f4 := (D3.2 4).2
  have D4 : Cells (((((w5.setCell ⟨w.heap.size, 0, none⟩ (.slice p2 32 c2)).setCell ⟨w.heap.size, 1, none⟩ (.int .i64 0)).setCell ⟨w.heap.size, 2, none⟩ (.int .i64 0)).setCell ⟨w.heap.size, 3, none⟩ (.slice qa 0 ca)).setCell ⟨w.heap.size, 4, none⟩ (.int .i64 0)) (w.heap.size) #[.slice p2 32 c2, .int .i64 0, .int .i64 0, .slice qa 0 ca, .int .i64 0, .slice none 0 0, .int .i64 0, .slice none 0 0, .int .i64 0, .slice none 0 0, .slice none 0 0, .slice none 0 0, .slice none 0 0] := D3.set 4 (by simp) (.int .i64 0)
  clear D3
  have m5 : ((((((w5.setCell ⟨w.heap.size, 0, none⟩ (.slice p2 32 c2)).setCell ⟨w.heap.size, 1, none⟩ (.int .i64 0)).setCell ⟨w.heap.size, 2, none⟩ (.int .i64 0)).setCell ⟨w.heap.size, 3, none⟩ (.slice qa 0 ca)).setCell ⟨w.heap.size, 4, none⟩ (.int .i64 0))).cell? ⟨w.heap.size, 5, none⟩ = some (.slice none 0 0) := (D4.2 5).1
  have f5 := (D4.2 5).2
  have D5 : Cells ((((((w5.setCell ⟨w.heap.size, 0, none⟩ (.slice p2 32 c2)).setCell ⟨w.heap.size, 1, none⟩ (.int .i64 0)).setCell ⟨w.heap.size, 2, none⟩ (.int .i64 0)).setCell ⟨w.heap.size, 3, none⟩ (.slice qa 0 ca)).setCell ⟨w.heap.size, 4, none⟩ (.int .i64 0)).setCell ⟨w.heap.size, 5, none⟩ (.slice qb 0 cb)) (w.heap.size) #[.slice p2 32 c2, .int .i64 0, .int .i64 0, .slice qa 0 ca, .int .i64 0, .slice qb 0 cb, .int .i64 0, .slice none 0 0, .int .i64 0, .slice none 0 0, .slice none 0 0, .slice none 0 0, .slice none 0 0] := D4.set 5 (by simp) (.slice qb 0 cb)
  clear D4
  have m6 : (((((((w5.setCell ⟨w.heap.size, 0, none⟩ (.slice p2 32 c2)).setCell ⟨w.heap.size, 1, none⟩ (.int .i64 0)).setCell ⟨w.heap.size, 2, none⟩ (.int .i64 0)).setCell ⟨w.heap.size, 3, none⟩ (.slice qa 0 ca)).setCell ⟨w.heap.size, 4, none⟩ (.int .i64 0)).setCell ⟨w.heap.size, 5, none⟩ (.slice qb 0 cb))).cell? ⟨w.heap.size, 6, none⟩ = some (.int .i64 0) := (D5.2 6).1
  have f6 := (D5.2 6).2
  have D6 : Cells (((((((w5.setCell ⟨w.heap.size, 0, none⟩ (.slice p2 32 c2)).setCell ⟨w.heap.size, 1, none⟩ (.int .i64 0)).setCell ⟨w.heap.size, 2, none⟩ (.int .i64 0)).setCell ⟨w.heap.size, 3, none⟩ (.slice qa 0 ca)).setCell ⟨w.heap.size, 4, none⟩ (.int .i64 0)).setCell ⟨w.heap.size, 5, none⟩ (.slice qb 0 cb)).setCell ⟨w.heap.size, 6, none⟩ (.int .i64 0)) (w.heap.size) #[.slice p2 32 c2, .int .i64 0, .int .i64 0, .slice qa 0 ca, .int .i64 0, .slice qb 0 cb, .int .i64 0, .slice none 0 0, .int .i64 0, .slice none 0 0, .slice none 0 0, .slice none 0 0, .slice none 0 0] := D5.set 6 (by simp) (.int .i64 0)
  clear D5
  have m7 : ((((((((w5.setCell ⟨w.heap.size, 0, none⟩ (.slice p2 32 c2)).setCell ⟨w.heap.size, 1, none⟩ (.int .i64 0)).setCell ⟨w.heap.size, 2, none⟩ (.int .i64 0)).setCell ⟨w.heap.size, 3, none⟩ (.slice qa 0 ca)).setCell ⟨w.heap.size, 4, none⟩ (.int .i64 0)).setCell ⟨w.heap.size, 5, none⟩ (.slice qb 0 cb)).setCell ⟨w.heap.size, 6, none⟩ (.int .i64 0))).cell? ⟨w.heap.size, 7, none⟩ = some (.slice none 0 0) := (D6.2 7).1
  have f7 := (D6.2 7).2
  have D7 : Cells ((((((((w5.setCell ⟨w.heap.size, 0, none⟩ (.slice p2 32 c2)).setCell ⟨w.heap.size, 1, none⟩ (.int .i64 0)).setCell ⟨w.heap.size, 2, none⟩ (.int .i64 0)).setCell ⟨w.heap.size, 3, none⟩ (.slice qa 0 ca)).setCell ⟨w.heap.size, 4, none⟩ (.int .i64 0)).setCell ⟨w.heap.size, 5, none⟩ (.slice qb 0 cb)).setCell ⟨w.heap.size, 6, none⟩ (.int .i64 0)).setCell ⟨w.heap.size, 7, none⟩ (.slice p4 32 c4)) (w.heap.size) #[.slice p2 32 c2, .int .i64 0, .int .i64 0, .slice qa 0 ca, .int .i64 0, .slice qb 0 cb, .int .i64 0, .slice p4 32 c4, .int .i64 0, .slice none 0 0, .slice none 0 0, .slice none 0 0, .slice none 0 0] := D6.set 7 (by simp) (.slice p4 32 c4)
  clear D6
  have m8 : (((((((((w5.setCell ⟨w.heap.size, 0, none⟩ (.slice p2 32 c2)).setCell ⟨w.heap.size, 1, none⟩ (.int .i64 0)).setCell ⟨w.heap.size, 2, none⟩ (.int .i64 0)).setCell ⟨w.heap.size, 3, none⟩ (.slice qa 0 ca)).setCell ⟨w.heap.size, 4, none⟩ (.int .i64 0)).setCell ⟨w.heap.size, 5, none⟩ (.slice qb 0 cb)).setCell ⟨w.heap.size, 6, none⟩ (.int .i64 0)).setCell ⟨w.heap.size, 7, none⟩ (.slice p4 32 c4))).cell? ⟨w.heap.size, 8, none⟩ = some (.int .i64 0) := (D7.2 8).1
  have f8 := (D7.2 8).2
  have D8 : Cells (((((((((w5.setCell ⟨w.heap.size, 0, none⟩ (.slice p2 32 c2)).setCell ⟨w.heap.size, 1, none⟩ (.int .i64 0)).setCell ⟨w.heap.size, 2, none⟩ (.int .i64 0)).setCell ⟨w.heap.size, 3, none⟩ (.slice qa 0 ca)).setCell ⟨w.heap.size, 4, none⟩ (.int .i64 0)).setCell ⟨w.heap.size, 5, none⟩ (.slice qb 0 cb)).setCell ⟨w.heap.size, 6, none⟩ (.int .i64 0)).setCell ⟨w.heap.size, 7, none⟩ (.slice p4 32 c4)).setCell ⟨w.heap.size, 8, none⟩ (.int .i64 0)) (w.heap.size) #[.slice p2 32 c2, .int .i64 0, .int .i64 0, .slice qa 0 ca, .int .i64 0, .slice qb 0 cb, .int .i64 0, .slice p4 32 c4, .int .i64 0, .slice none 0 0, .slice none 0 0, .slice none 0 0, .slice none 0 0] := D7.set 8 (by simp) (.int .i64 0)
  clear D7
  have m9 : ((((((((((w5.setCell ⟨w.heap.size, 0, none⟩ (.slice p2 32 c2)).setCell ⟨w.heap.size, 1, none⟩ (.int .i64 0)).setCell ⟨w.heap.size, 2, none⟩ (.int .i64 0)).setCell ⟨w.heap.size, 3, none⟩ (.slice qa 0 ca)).setCell ⟨w.heap.size, 4, none⟩ (.int .i64 0)).setCell ⟨w.heap.size, 5, none⟩ (.slice qb 0 cb)).setCell ⟨w.heap.size, 6, none⟩ (.int .i64 0)).setCell ⟨w.heap.size, 7, none⟩ (.slice p4 32 c4)).setCell ⟨w.heap.size, 8, none⟩ (.int .i64 0))).cell? ⟨w.heap.size, 9, none⟩ = some (.slice none 0 0) := (D8.2 9).1
  have f9 := (D8.2 9).2
  have D9 : Cells ((((((((((w5.setCell ⟨w.heap.size, 0, none⟩ (.slice p2 32 c2)).setCell ⟨w.heap.size, 1, none⟩ (.int .i64 0)).setCell ⟨w.heap.size, 2, none⟩ (.int .i64 0)).setCell ⟨w.heap.size, 3, none⟩ (.slice qa 0 ca)).setCell ⟨w.heap.size, 4, none⟩ (.int .i64 0)).setCell ⟨w.heap.size, 5, none⟩ (.slice qb 0 cb)).setCell ⟨w.heap.size, 6, none⟩ (.int .i64 0)).setCell ⟨w.heap.size, 7, none⟩ (.slice p4 32 c4)).setCell ⟨w.heap.size, 8, none⟩ (.int .i64 0)).setCell ⟨w.heap.size, 9, none⟩ (.slice qc 0 cc)) (w.heap.size) #[.slice p2 32 c2, .int .i64 0, .int .i64 0, .slice qa 0 ca, .int .i64 0, .slice qb 0 cb, .int .i64 0, .slice p4 32 c4, .int .i64 0, .slice qc 0 cc, .slice none 0 0, .slice none 0 0, .slice none 0 0] := D8.set 9 (by simp) (.slice qc 0 cc)
  clear D8
  have m10 : (((((((((((w5.setCell ⟨w.heap.size, 0, none⟩ (.slice p2 32 c2)).setCell ⟨w.heap.size, 1, none⟩ (.int .i64 0)).setCell ⟨w.heap.size, 2, none⟩ (.int .i64 0)).setCell ⟨w.heap.size, 3, none⟩ (.slice qa 0 ca)).setCell ⟨w.heap.size, 4, none⟩ (.int .i64 0)).setCell ⟨w.heap.size, 5, none⟩ (.slice qb 0 cb)).setCell ⟨w.heap.size, 6, none⟩ (.int .i64 0)).setCell ⟨w.heap.size, 7, none⟩ (.slice p4 32 c4)).setCell ⟨w.heap.size, 8, none⟩ (.int .i64 0)).setCell ⟨w.heap.size, 9, none⟩ (.slice qc 0 cc))).cell? ⟨w.heap.size, 10, none⟩ = some (.slice none 0 0) := (D9.2 10).1
  have f10 := (D9.2 10).2
  have D10 : Cells (((((((((((w5.setCell ⟨w.heap.size, 0, none⟩ (.slice p2 32 c2)).setCell ⟨w.heap.size, 1, none⟩ (.int .i64 0)).setCell ⟨w.heap.size, 2, none⟩ (.int .i64 0)).setCell ⟨w.heap.size, 3, none⟩ (.slice qa 0 ca)).setCell ⟨w.heap.size, 4, none⟩ (.int .i64 0)).setCell ⟨w.heap.size, 5, none⟩ (.slice qb 0 cb)).setCell ⟨w.heap.size, 6, none⟩ (.int .i64 0)).setCell ⟨w.heap.size, 7, none⟩ (.slice p4 32 c4)).setCell ⟨w.heap.size, 8, none⟩ (.int .i64 0)).setCell ⟨w.heap.size, 9, none⟩ (.slice qc 0 cc)).setCell ⟨w.heap.size, 10, none⟩ (.slice qd 0 cd)) (w.heap.size) #[.slice p2 32 c2, .int .i64 0, .int .i64 0, .slice qa 0 ca, .int .i64 0, .slice qb 0 cb, .int .i64 0, .slice p4 32 c4, .int .i64 0, .slice qc 0 cc, .slice qd 0 cd, .slice none 0 0, .slice none 0 0] := D9.set 10 (by simp) (.slice qd 0 cd)
  clear D9
  have m11 : ((((((((((((w5.setCell ⟨w.heap.size, 0, none⟩ (.slice p2 32 c2)).setCell ⟨w.heap.size, 1, none⟩ (.int .i64 0)).setCell ⟨w.heap.size, 2, none⟩ (.int .i64 0)).setCell ⟨w.heap.size, 3, none⟩ (.slice qa 0 ca)).setCell ⟨w.heap.size, 4, none⟩ (.int .i64 0)).setCell ⟨w.heap.size, 5, none⟩ (.slice qb 0 cb)).setCell ⟨w.heap.size, 6, none⟩ (.int .i64 0)).setCell ⟨w.heap.size, 7, none⟩ (.slice p4 32 c4)).setCell ⟨w.heap.size, 8, none⟩ (.int .i64 0)).setCell ⟨w.heap.size, 9, none⟩ (.slice qc 0 cc)).setCell ⟨w.heap.size, 10, none⟩ (.slice qd 0 cd))).cell? ⟨w.heap.size, 11, none⟩ = some (.slice none 0 0) := (D10.2 11).1
  have f11 := (D10.2 11).2
  have D11 : Cells ((((((((((((w5.setCell ⟨w.heap.size, 0, none⟩ (.slice p2 32 c2)).setCell ⟨w.heap.size, 1, none⟩ (.int .i64 0)).setCell ⟨w.heap.size, 2, none⟩ (.int .i64 0)).setCell ⟨w.heap.size, 3, none⟩ (.slice qa 0 ca)).setCell ⟨w.heap.size, 4, none⟩ (.int .i64 0)).setCell ⟨w.heap.size, 5, none⟩ (.slice qb 0 cb)).setCell ⟨w.heap.size, 6, none⟩ (.int .i64 0)).setCell ⟨w.heap.size, 7, none⟩ (.slice p4 32 c4)).setCell ⟨w.heap.size, 8, none⟩ (.int .i64 0)).setCell ⟨w.heap.size, 9, none⟩ (.slice qc 0 cc)).setCell ⟨w.heap.size, 10, none⟩ (.slice qd 0 cd)).setCell ⟨w.heap.size, 11, none⟩ (.slice none 0 0)) (w.heap.size) #[.slice p2 32 c2, .int .i64 0, .int .i64 0, .slice qa 0 ca, .int .i64 0, .slice qb 0 cb, .int .i64 0, .slice p4 32 c4, .int .i64 0, .slice qc 0 cc, .slice qd 0 cd, .slice none 0 0, .slice none 0 0] := D10.set 11 (by simp) (.slice none 0 0)
  clear D10
  have m12 : (((((((((((((w5.setCell ⟨w.heap.size, 0, none⟩ (.slice p2 32 c2)).setCell ⟨w.heap.size, 1, none⟩ (.int .i64 0)).setCell ⟨w.heap.size, 2, none⟩ (.int .i64 0)).setCell ⟨w.heap.size, 3, none⟩ (.slice qa 0 ca)).setCell ⟨w.heap.size, 4, none⟩ (.int .i64 0)).setCell ⟨w.heap.size, 5, none⟩ (.slice qb 0 cb)).setCell ⟨w.heap.size, 6, none⟩ (.int .i64 0)).setCell ⟨w.heap.size, 7, none⟩ (.slice p4 32 c4)).setCell ⟨w.heap.size, 8, none⟩ (.int .i64 0)).setCell ⟨w.heap.size, 9, none⟩ (.slice qc 0 cc)).setCell ⟨w.heap.size, 10, none⟩ (.slice qd 0 cd)).setCell ⟨w.heap.size, 11, none⟩ (.slice none 0 0))).cell? ⟨w.heap.size, 12, none⟩ = some (.slice none 0 0) := (D11.2 12).1
  have f12 := (D11.2 12).2
  have D12 : Cells (((((((((((((w5.setCell ⟨w.heap.size, 0, none⟩ (.slice p2 32 c2)).setCell ⟨w.heap.size, 1, none⟩ (.int .i64 0)).setCell ⟨w.heap.size, 2, none⟩ (.int .i64 0)).setCell ⟨w.heap.size, 3, none⟩ (.slice qa 0 ca)).setCell ⟨w.heap.size, 4, none⟩ (.int .i64 0)).setCell ⟨w.heap.size, 5, none⟩ (.slice qb 0 cb)).setCell ⟨w.heap.size, 6, none⟩ (.int .i64 0)).setCell ⟨w.heap.size, 7, none⟩ (.slice p4 32 c4)).setCell ⟨w.heap.size, 8, none⟩ (.int .i64 0)).setCell ⟨w.heap.size, 9, none⟩ (.slice qc 0 cc)).setCell ⟨w.heap.size, 10, none⟩ (.slice qd 0 cd)).setCell ⟨w.heap.size, 11, none⟩ (.slice none 0 0)).setCell ⟨w.heap.size, 12, none⟩ (.slice none 0 0)) (w.heap.size) #[.slice p2 32 c2, .int .i64 0, .int .i64 0, .slice qa 0 ca, .int .i64 0, .slice qb 0 cb, .int .i64 0, .slice p4 32 c4, .int .i64 0, .slice qc 0 cc, .slice qd 0 cd, .slice none 0 0, .slice none 0 0] := D11.set 12 (by simp) (.slice none 0 0)
  clear D11
  clear D12
  have k5 : Below w.heap.size w (((((((((((((w5.setCell ⟨w.heap.size, 0, none⟩ (.slice p2 32 c2)).setCell ⟨w.heap.size, 1, none⟩ (.int .i64 0)).setCell ⟨w.heap.size, 2, none⟩ (.int .i64 0)).setCell ⟨w.heap.size, 3, none⟩ (.slice qa 0 ca)).setCell ⟨w.heap.size, 4, none⟩ (.int .i64 0)).setCell ⟨w.heap.size, 5, none⟩ (.slice qb 0 cb)).setCell ⟨w.heap.size, 6, none⟩ (.int .i64 0)).setCell ⟨w.heap.size, 7, none⟩ (.slice p4 32 c4)).setCell ⟨w.heap.size, 8, none⟩ (.int .i64 0)).setCell ⟨w.heap.size, 9, none⟩ (.slice qc 0 cc)).setCell ⟨w.heap.size, 10, none⟩ (.slice qd 0 cd)).setCell ⟨w.heap.size, 11, none⟩ (.slice none 0 0)).setCell ⟨w.heap.size, 12, none⟩ (.slice none 0 0)) := ((((((((((((((((((((((((((kk).setCell (show w.heap.size ≤ w.heap.size by omega) _)).setCell (show w.heap.size ≤ w.heap.size by omega) _)).setCell (show w.heap.size ≤ w.heap.size by omega) _)).setCell (show w.heap.size ≤ w.heap.size by omega) _)).setCell (show w.heap.size ≤ w.heap.size by omega) _)).setCell (show w.heap.size ≤ w.heap.size by omega) _)).setCell (show w.heap.size ≤ w.heap.size by omega) _)).setCell (show w.heap.size ≤ w.heap.size by omega) _)).setCell (show w.heap.size ≤ w.heap.size by omega) _)).setCell (show w.heap.size ≤ w.heap.size by omega) _)).setCell (show w.heap.size ≤ w.heap.size by omega) _)).setCell (show w.heap.size ≤ w.heap.size by omega) _)).setCell (show w.heap.size ≤ w.heap.size by omega) _)
  have gE : World.grownBy w5 (((((((((((((w5.setCell ⟨w.heap.size, 0, none⟩ (.slice p2 32 c2)).setCell ⟨w.heap.size, 1, none⟩ (.int .i64 0)).setCell ⟨w.heap.size, 2, none⟩ (.int .i64 0)).setCell ⟨w.heap.size, 3, none⟩ (.slice qa 0 ca)).setCell ⟨w.heap.size, 4, none⟩ (.int .i64 0)).setCell ⟨w.heap.size, 5, none⟩ (.slice qb 0 cb)).setCell ⟨w.heap.size, 6, none⟩ (.int .i64 0)).setCell ⟨w.heap.size, 7, none⟩ (.slice p4 32 c4)).setCell ⟨w.heap.size, 8, none⟩ (.int .i64 0)).setCell ⟨w.heap.size, 9, none⟩ (.slice qc 0 cc)).setCell ⟨w.heap.size, 10, none⟩ (.slice qd 0 cd)).setCell ⟨w.heap.size, 11, none⟩ (.slice none 0 0)).setCell ⟨w.heap.size, 12, none⟩ (.slice none 0 0)) (some w.heap.size) := setCells_grown w.heap.size [.slice p2 32 c2, .int .i64 0, .int .i64 0, .slice qa 0 ca, .int .i64 0, .slice qb 0 cb, .int .i64 0, .slice p4 32 c4, .int .i64 0, .slice qc 0 cc, .slice qd 0 cd, .slice none 0 0, .slice none 0 0] 0 w5
  have sE := gE.size
  have o2' := Own.past_row o2 gE (Or.inl sz)
  have o4' := Own.past_row o4 gE (Or.inl (Nat.lt_of_lt_of_le sz (own_le o2)))
  have zE : Cells (((((((((((((w5.setCell ⟨w.heap.size, 0, none⟩ (.slice p2 32 c2)).setCell ⟨w.heap.size, 1, none⟩ (.int .i64 0)).setCell ⟨w.heap.size, 2, none⟩ (.int .i64 0)).setCell ⟨w.heap.size, 3, none⟩ (.slice qa 0 ca)).setCell ⟨w.heap.size, 4, none⟩ (.int .i64 0)).setCell ⟨w.heap.size, 5, none⟩ (.slice qb 0 cb)).setCell ⟨w.heap.size, 6, none⟩ (.int .i64 0)).setCell ⟨w.heap.size, 7, none⟩ (.slice p4 32 c4)).setCell ⟨w.heap.size, 8, none⟩ (.int .i64 0)).setCell ⟨w.heap.size, 9, none⟩ (.slice qc 0 cc)).setCell ⟨w.heap.size, 10, none⟩ (.slice qd 0 cd)).setCell ⟨w.heap.size, 11, none⟩ (.slice none 0 0)).setCell ⟨w.heap.size, 12, none⟩ (.slice none 0 0)) w.heap.size #[.slice p2 32 c2, .int .i64 0, .int .i64 0, .slice qa 0 ca, .int .i64 0, .slice qb 0 cb, .int .i64 0, .slice p4 32 c4, .int .i64 0, .slice qc 0 cc, .slice qd 0 cd, .slice none 0 0, .slice none 0 0] := Cells.setAll Z5 [.slice p2 32 c2, .int .i64 0, .int .i64 0, .slice qa 0 ca, .int .i64 0, .slice qb 0 cb, .int .i64 0, .slice p4 32 c4, .int .i64 0, .slice qc 0 cc, .slice qd 0 cd, .slice none 0 0, .slice none 0 0] rfl
  have hR := run_loadVar_mid (P := Tryz.prog) _ w.heap.size 0 32 [.slice p2 32 c2, .int .i64 0, .int .i64 0, .slice qa 0 ca, .int .i64 0, .slice qb 0 cb, .int .i64 0, .slice p4 32 c4, .int .i64 0, .slice qc 0 cc, .slice qd 0 cd, .slice none 0 0, .slice none 0 0] _ (Cells.range zE) Tryz.underlying32 rfl (sizeWorld _ _ _ _ _ _ _ _ _ _ _ _ _)
  clear zE gE Z5 Z4 Z2 Z0
  go_wp2_with (fail)
  (try simp only [Exit.inBlock, Exit.then])
  refine bodyPost_ret (v := .tuple #[.agg #[.slice p2 32 c2, .int .i64 0, .int .i64 0, .slice qa 0 ca, .int .i64 0, .slice qb 0 cb, .int .i64 0, .slice p4 32 c4, .int .i64 0, .slice qc 0 cc, .slice qd 0 cd, .slice none 0 0, .slice none 0 0], .bool true]) ?_ rfl ⟨p2, c2, qa, ca, qb, cb, p4, c4, qc, cc, qd, cd, k, rfl, Own.widen o2' (by omega) (Nat.le_refl _), Own.widen o4' (Nat.le_refl _) sE, k5⟩
  simp [results, asAddr, hR]
end Go.Proofs.YthfnechcddmjkaaGreatDoor

namespace Go.Proofs.YthfnechcddmjkaaGreatDoor
open Go.RowKit
set_option maxRecDepth 100000
set_option maxHeartbeats 2000000 in
theorem specPostNew_any (w : World) : Calls Tryz.prog 19 #[] w fun e w' => e = .returned (.agg #[.slice none 0 0, .int .i64 0, .slice none 0 0, .int .i64 0]) ∧ Below w.heap.size w w' := by
  have bP := buildPN
  have CZ := Cells.made w #[.slice none 0 0, .int .i64 0, .slice none 0 0, .int .i64 0] 25
  go_enter Tryz.func19, Tryz.ntmps19
  go_wp2_with (fail)
  refine bodyPost_ret (v := .agg #[.slice none 0 0, .int .i64 0, .slice none 0 0, .int .i64 0]) ?_ rfl ⟨rfl, made_below _ _ (Below.refl _ _)⟩
  have y0 := (CZ.2 0).1
  have y1 := (CZ.2 1).1
  have y2 := (CZ.2 2).1
  have y3 := (CZ.2 3).1
  simp only [results, Tryz.f19]
  go_simp
theorem setCells_below (g lo : Nat) (h : lo ≤ g) (vs : List Value) (w : World) {a : World} (k : Below lo a w) (hz : lo ≤ w.heap.size) : Below lo a (w.setCells g 0 vs) := k.grown (setCells_grown g vs 0 w) hz (fun q hq => by have := Option.some.inj hq; omega)
set_option maxHeartbeats 8000000 in
theorem specReaderNew_is (p : Option Addr) (n c : Nat) (xs : List Int) (w : World) (hn : n ≤ 1048576) (hx : xs.length = n) (h : BytesIn w p n xs) (hb : ∀ x ∈ xs, 0 ≤ x ∧ x < 256) :
    Calls Tryz.prog 18 #[.slice p n c] w fun z w' => ∃ p c, z = .returned (.tuple #[.agg #[.slice p (if n = 32 then 32 else 0) c, .int .i64 0, .slice none 0 0, .slice none 0 0], .bool (decide (n = 32))]) ∧ Own 5 w' w.heap.size w'.heap.size (.slice p (if n = 32 then 32 else 0) c) (if n = 32 then 32 else 0) (if n = 32 then xs else []) ∧ Below w.heap.size w w' := by
  obtain ⟨i0, hi, hz0, hz1, hz2⟩ := info_parts infoByte
  have bR := buildR
  have bZ := buildZ
  have bA : ∀ a b, Below w.heap.size w ((w.alloc a).alloc b) := fun a b => made_below _ _ (made_below _ _ (Below.refl _ _))
  have h1 := fun a b => in_below h (bA a b)
  have hown0 : ((w.alloc (.cells #[.slice none 0 0, .int .i64 0, .slice none 0 0, .slice none 0 0] 28)).alloc (.cells #[] 5)).ownsRow (w.heap.size + 1) 5 1 (.slice (some ⟨w.heap.size + 1, 0, none⟩) 0 0) 0 (([] : List Int).map (Value.int .u8)) := by
    have e : (w.alloc (.cells #[.slice none 0 0, .int .i64 0, .slice none 0 0, .slice none 0 0] 28)).heap.size = w.heap.size + 1 := by simp
    have k := heap_made (w.alloc (.cells #[.slice none 0 0, .int .i64 0, .slice none 0 0, .slice none 0 0] 28)) (.cells #[] 5)
    rw [e] at k
    exact ⟨rfl, .inr ⟨w.heap.size + 1, 0, #[], rfl, Nat.le_refl _, k, Nat.le_refl _, Nat.zero_le _, rfl, rfl⟩⟩
  obtain ⟨WZ, hWZ⟩ : ∃ WZ, w.alloc (.cells #[.slice none 0 0, .int .i64 0, .slice none 0 0, .slice none 0 0] 28) = WZ := ⟨_, rfl⟩
  have CZ : Cells WZ w.heap.size #[.slice none 0 0, .int .i64 0, .slice none 0 0, .slice none 0 0] := by rw [← hWZ]; exact Cells.made _ _ _
  have sZ : WZ.heap.size = w.heap.size + 1 := by rw [← hWZ]; simp
  have kZ : Below w.heap.size w WZ := by rw [← hWZ]; exact made_below _ _ (Below.refl _ _)
  have h1 := in_below h (kZ.trans ((Below.refl _ _).alloc (by omega) (.cells #[] 5)))
  rw [hWZ] at hown0
  replace hWZ : Hid (w.alloc (.cells #[.slice none 0 0, .int .i64 0, .slice none 0 0, .slice none 0 0] 28) = WZ) := hWZ
  clear bA h
  go_enter Tryz.func18, Tryz.ntmps18
  go_wp2_with (first | rw [hWZ.out] | (at_builtin; refine list_spreadA hi hz0 hz1 hz2 (.tmp 5) (.tmp 6) 22 Tryz.underlying22 hown0 h1 hx (by omega) (by omega) (by simp; omega) (by rfl) (by rfl) (by rfl) (by rfl) ?_; intro p1 cap1 w1 ho1 hb1; simp only [Nat.zero_add, List.nil_append] at ho1 ⊢))
  have own1 : Own 5 w1 (w.heap.size + 1) w1.heap.size (.slice p1 n cap1) n xs := .of ho1
  have hb1' : Below WZ.heap.size (WZ.alloc (.cells #[] 5)) w1 := by rw [sZ]; exact hb1
  have hb2 : Below WZ.heap.size WZ w1 := ((Below.refl _ WZ).alloc (Nat.le_refl _) _).trans hb1'
  have k1 : Below w.heap.size w w1 := below_on kZ hb2
  have Z1 := CZ.on hb2
  have s1 := hb2.size
  have ok1 := newOk (by omega) hx own1.bytes hb none none 0 0 (c := cap1)
  clear hWZ hown0 h1 kZ CZ hb1 hb1' hb2 ho1
  refine (specReaderOk_any ⟨⟨p1, n, cap1, xs⟩, 0, none, 0, 0, [], none, 0, 0, []⟩ _ (ok1.on (made_below _ _ (Below.refl _ _)))).mono ?_
  rintro z w3 ⟨rfl, b3⟩
  have C3 := (Cells.made w1 _ _).on b3
  have b4 := made_below _ _ b3
  have Z3 := Z1.on b4
  have own3 := own1.on b4
  have k3 := below_on k1 b4
  have s3 := b4.size
  rw [rB_new]
  clear b3 b4 Z1 own1 k1 ok1
  by_cases e : n = 32
  · rw [decide_eq_true e]
    subst e
    have c0 : w3.cell? ⟨w1.heap.size, 0, none⟩ = some (.slice p1 32 cap1) := (C3.2 0).1
    have c1 : w3.cell? ⟨w1.heap.size, 1, none⟩ = some (.int .i64 0) := (C3.2 1).1
    have c2 : w3.cell? ⟨w1.heap.size, 2, none⟩ = some (.slice none 0 0) := (C3.2 2).1
    have c3 : w3.cell? ⟨w1.heap.size, 3, none⟩ = some (.slice none 0 0) := (C3.2 3).1
    have m0 : w3.cell? ⟨w.heap.size, 0, none⟩ = some (.slice none 0 0) := (Z3.2 0).1
    have f0 := (Z3.2 0).2
    have D0 := Z3.set 0 (by simp) (.slice p1 32 cap1)
    have m1 : (w3.setCell ⟨w.heap.size, 0, none⟩ (.slice p1 32 cap1)).cell? ⟨w.heap.size, 1, none⟩ = some (.int .i64 0) := (D0.2 1).1
    have f1 := (D0.2 1).2
    have D1 := D0.set 1 (by simp) (.int .i64 0)
    have m2 : ((w3.setCell ⟨w.heap.size, 0, none⟩ (.slice p1 32 cap1)).setCell ⟨w.heap.size, 1, none⟩ (.int .i64 0)).cell? ⟨w.heap.size, 2, none⟩ = some (.slice none 0 0) := (D1.2 2).1
    have f2 := (D1.2 2).2
    have D2 := D1.set 2 (by simp) (.slice none 0 0)
    have m3 : (((w3.setCell ⟨w.heap.size, 0, none⟩ (.slice p1 32 cap1)).setCell ⟨w.heap.size, 1, none⟩ (.int .i64 0)).setCell ⟨w.heap.size, 2, none⟩ (.slice none 0 0)).cell? ⟨w.heap.size, 3, none⟩ = some (.slice none 0 0) := (D2.2 3).1
    have f3 := (D2.2 3).2
    have D3 := D2.set 3 (by simp) (.slice none 0 0)
    obtain ⟨X3, hX3⟩ : ∃ X3, X3 = ((((w3.setCell ⟨w.heap.size, 0, none⟩ (.slice p1 32 cap1)).setCell ⟨w.heap.size, 1, none⟩ (.int .i64 0)).setCell ⟨w.heap.size, 2, none⟩ (.slice none 0 0)).setCell ⟨w.heap.size, 3, none⟩ (.slice none 0 0)) := ⟨_, rfl⟩
    have bX : Below w.heap.size w3 X3 := by rw [hX3]; exact ((((Below.refl _ _).setCell (show w.heap.size ≤ w.heap.size by omega) _).setCell (show w.heap.size ≤ w.heap.size by omega) _).setCell (show w.heap.size ≤ w.heap.size by omega) _).setCell (show w.heap.size ≤ w.heap.size by omega) _
    have r9 := (Own.set_below (Own.set_below (Own.set_below (Own.set_below own3 (a := ⟨w.heap.size, 0, none⟩) (show w.heap.size < w.heap.size + 1 by omega) (.slice p1 32 cap1)) (a := ⟨w.heap.size, 1, none⟩) (show w.heap.size < w.heap.size + 1 by omega) (.int .i64 0)) (a := ⟨w.heap.size, 2, none⟩) (show w.heap.size < w.heap.size + 1 by omega) (.slice none 0 0)) (a := ⟨w.heap.size, 3, none⟩) (show w.heap.size < w.heap.size + 1 by omega) (.slice none 0 0))
    rw [← hX3] at r9
    rw [← hX3] at D3
    have y0 : X3.cell? ⟨w.heap.size, 0, none⟩ = some (.slice p1 32 cap1) := (D3.2 0).1
    have y1 : X3.cell? ⟨w.heap.size, 1, none⟩ = some (.int .i64 0) := (D3.2 1).1
    have y2 : X3.cell? ⟨w.heap.size, 2, none⟩ = some (.slice none 0 0) := (D3.2 2).1
    have y3 : X3.cell? ⟨w.heap.size, 3, none⟩ = some (.slice none 0 0) := (D3.2 3).1
    replace hX3 : Hid (((((w3.setCell ⟨w.heap.size, 0, none⟩ (.slice p1 32 cap1)).setCell ⟨w.heap.size, 1, none⟩ (.int .i64 0)).setCell ⟨w.heap.size, 2, none⟩ (.slice none 0 0)).setCell ⟨w.heap.size, 3, none⟩ (.slice none 0 0)) = X3) := hX3.symm
    clear D0 D1 D2 D3 Z3 
    go_wp2_with (first | rw [hX3.out])
    refine bodyPost_ret (v := .tuple #[.agg #[.slice p1 32 cap1, .int .i64 0, .slice none 0 0, .slice none 0 0], .bool true]) ?_ rfl ⟨p1, cap1, rfl, ⟨owns_mono r9.1 (by omega), fun k hk => Nat.lt_of_lt_of_le (r9.2 k hk) (by have := bX.size; omega)⟩, below_to k3 bX⟩
    simp only [results, Tryz.f18]
    go_simp
  · rw [decide_eq_false e]
    have m0 : w3.cell? ⟨w.heap.size, 0, none⟩ = some (.slice none 0 0) := (Z3.2 0).1
    have f0 := (Z3.2 0).2
    have D0 := Z3.set 0 (by simp) (.slice none 0 0)
    have m1 : (w3.setCell ⟨w.heap.size, 0, none⟩ (.slice none 0 0)).cell? ⟨w.heap.size, 1, none⟩ = some (.int .i64 0) := (D0.2 1).1
    have f1 := (D0.2 1).2
    have D1 := D0.set 1 (by simp) (.int .i64 0)
    have m2 : ((w3.setCell ⟨w.heap.size, 0, none⟩ (.slice none 0 0)).setCell ⟨w.heap.size, 1, none⟩ (.int .i64 0)).cell? ⟨w.heap.size, 2, none⟩ = some (.slice none 0 0) := (D1.2 2).1
    have f2 := (D1.2 2).2
    have D2 := D1.set 2 (by simp) (.slice none 0 0)
    have m3 : (((w3.setCell ⟨w.heap.size, 0, none⟩ (.slice none 0 0)).setCell ⟨w.heap.size, 1, none⟩ (.int .i64 0)).setCell ⟨w.heap.size, 2, none⟩ (.slice none 0 0)).cell? ⟨w.heap.size, 3, none⟩ = some (.slice none 0 0) := (D2.2 3).1
    have f3 := (D2.2 3).2
    have D3 := D2.set 3 (by simp) (.slice none 0 0)
    obtain ⟨X3, hX3⟩ : ∃ X3, X3 = ((((w3.setCell ⟨w.heap.size, 0, none⟩ (.slice none 0 0)).setCell ⟨w.heap.size, 1, none⟩ (.int .i64 0)).setCell ⟨w.heap.size, 2, none⟩ (.slice none 0 0)).setCell ⟨w.heap.size, 3, none⟩ (.slice none 0 0)) := ⟨_, rfl⟩
    have bX : Below w.heap.size w3 X3 := by rw [hX3]; exact ((((Below.refl _ _).setCell (show w.heap.size ≤ w.heap.size by omega) _).setCell (show w.heap.size ≤ w.heap.size by omega) _).setCell (show w.heap.size ≤ w.heap.size by omega) _).setCell (show w.heap.size ≤ w.heap.size by omega) _
    rw [← hX3] at D3
    have y0 : X3.cell? ⟨w.heap.size, 0, none⟩ = some (.slice none 0 0) := (D3.2 0).1
    have y1 : X3.cell? ⟨w.heap.size, 1, none⟩ = some (.int .i64 0) := (D3.2 1).1
    have y2 : X3.cell? ⟨w.heap.size, 2, none⟩ = some (.slice none 0 0) := (D3.2 2).1
    have y3 : X3.cell? ⟨w.heap.size, 3, none⟩ = some (.slice none 0 0) := (D3.2 3).1
    replace hX3 : Hid (((((w3.setCell ⟨w.heap.size, 0, none⟩ (.slice none 0 0)).setCell ⟨w.heap.size, 1, none⟩ (.int .i64 0)).setCell ⟨w.heap.size, 2, none⟩ (.slice none 0 0)).setCell ⟨w.heap.size, 3, none⟩ (.slice none 0 0)) = X3) := hX3.symm
    clear D0 D1 D2 D3 Z3 
    go_wp2_with (first | rw [hX3.out])
    refine bodyPost_ret (v := .tuple #[.agg #[.slice none 0 0, .int .i64 0, .slice none 0 0, .slice none 0 0], .bool false]) ?_ rfl ⟨none, 0, rfl, own_none _ _, below_to k3 bX⟩
    simp only [results, Tryz.f18]
    go_simp

set_option maxHeartbeats 16000000 in
theorem specWN_no (p q : Option Addr) (n c m d M : Nat) (xs Y : List Int) (KR : Bool) (w : World) (hn : n ≤ 1048576) (hx : xs.length = n) (h0 : BytesIn w p n xs) (RN : ∀ X, Below w.heap.size w X → Calls Tryz.prog 18 #[.slice q m d] X fun z w' => ∃ p4 c4, z = .returned (.tuple #[.agg #[.slice p4 M c4, .int .i64 0, .slice none 0 0, .slice none 0 0], .bool KR]) ∧ Own 5 w' X.heap.size w'.heap.size (.slice p4 M c4) M Y ∧ Below X.heap.size X w') (WO : ∀ X p1 p4 c1 c4, BytesIn X p4 M Y → Calls Tryz.prog 20 #[.agg #[.slice p1 n c1, .int .i64 0, .int .i64 0, .slice none 0 0, .int .i64 0, .slice none 0 0, .int .i64 0, .slice p4 M c4, .int .i64 0, .slice none 0 0, .slice none 0 0, .slice none 0 0, .slice none 0 0]] X fun e w' => e = .returned (.bool false) ∧ Below X.heap.size X w') : Calls Tryz.prog 5 #[.slice p n c, .slice q m d] w fun z w' => z = .returned (.tuple #[.agg #[.slice none 0 0, .int .i64 0, .int .i64 0, .slice none 0 0, .int .i64 0, .slice none 0 0, .int .i64 0, .slice none 0 0, .int .i64 0, .slice none 0 0, .slice none 0 0, .slice none 0 0, .slice none 0 0], .bool false]) ∧ Below w.heap.size w w' := by
  obtain ⟨i0', hi, hz0, hz1, hz2⟩ := info_parts infoByte
  have bW := buildWN
  have bZ := buildZN
  go_enter Tryz.func5, Tryz.ntmps5
  go_wp2_with (fail)
  obtain ⟨W0, hW0⟩ : ∃ W0, w.alloc (.cells #[.slice none 0 0, .int .i64 0, .int .i64 0, .slice none 0 0, .int .i64 0, .slice none 0 0, .int .i64 0, .slice none 0 0, .int .i64 0, .slice none 0 0, .slice none 0 0, .slice none 0 0, .slice none 0 0] 32) = W0 := ⟨_, rfl⟩
  have Z0 : Cells W0 w.heap.size #[.slice none 0 0, .int .i64 0, .int .i64 0, .slice none 0 0, .int .i64 0, .slice none 0 0, .int .i64 0, .slice none 0 0, .int .i64 0, .slice none 0 0, .slice none 0 0, .slice none 0 0, .slice none 0 0] := by rw [← hW0]; exact Cells.made _ _ _
  have k0 : Below w.heap.size w W0 := by rw [← hW0]; exact made_below _ _ (Below.refl _ _)
  have sW0 : w.heap.size < W0.heap.size := Z0.1
  rw [hW0]
  clear hW0
  refine (RN _ k0).mono ?_
  rintro z w2 ⟨p4, c4, rfl, o4, b2⟩
  have Z2 := Z0.on b2
  have k2 := below_on k0 b2
  have s2 := b2.size
  clear RN
  go_wp2_with (fail)
  rename_i KK hKK
  obtain ⟨W1, hW1⟩ : ∃ W1, w2.alloc (.cells #[.slice p4 M c4, .int .i64 0, .slice none 0 0, .slice none 0 0] 28) = W1 := ⟨_, rfl⟩
  have CR : Cells W1 w2.heap.size #[.slice p4 M c4, .int .i64 0, .slice none 0 0, .slice none 0 0] := by rw [← hW1]; exact Cells.made _ _ _
  have b3 : Below w2.heap.size w2 W1 := by rw [← hW1]; exact made_below _ _ (Below.refl _ _)
  rw [hW1]
  clear hW1
  have Z3 := Z2.on b3
  have k3 := below_on k2 b3
  have o3 := o4.on b3
  have s3 := b3.size
  refine wp_region_noPanic ?_
  refine wp_region_T 99 (fun X => Cells X w2.heap.size #[.slice p4 M c4, .int .i64 0, .slice none 0 0, .slice none 0 0]) (fun _ => True) (by kernel_rfl) ?_
  have i0 := in_below h0 k3.drew
  have kT := CR.on (Below.refl _ _).drew
  have ZW := Z3.on (Below.refl _ _).drew
  have oW := o3.on (Below.refl _ _).drew
  have kw := k3.drew
  have sW : w2.heap.size ≤ W1.drew.heap.size := s3
  clear CR Z0 Z2 Z3 k0 k2 k3 o3 o4 b2 b3 s3
  generalize W1.drew = W at i0 kT ZW oW kw sW ⊢
  have kW : Below W.heap.size W W := Below.refl _ _
  have TL : ∀ (X : World) (G : Nat) (B14 : Value) (p1 : Option Addr) (c1 : Nat), Below W.heap.size W X → Cells X G #[.slice p1 n c1, .int .i64 0, .int .i64 0, .slice none 0 0, .int .i64 0, .slice none 0 0, .int .i64 0, .slice p4 M c4, .int .i64 0, .slice none 0 0, .slice none 0 0, .slice none 0 0, .slice none 0 0] → W.heap.size ≤ G → Own 5 X W.heap.size X.heap.size (.slice p1 n c1) n xs → KK { tmps := #[.slice p n c, .slice q m d, undef, undef, .pointer (some ⟨w.heap.size, 0, none⟩), .bool false, .pointer (some ⟨w2.heap.size, 0, none⟩), .bool KR, .pointer (some ⟨G, 0, none⟩), .tuple #[.agg #[.slice p4 M c4, .int .i64 0, .slice none 0 0, .slice none 0 0], .bool KR], .slice q m d, .tuple #[.agg #[.slice p4 M c4, .int .i64 0, .slice none 0 0, .slice none 0 0], .bool KR], .agg #[.slice p4 M c4, .int .i64 0, .slice none 0 0, .slice none 0 0], .bool KR, B14, .slice p n c, .slice p1 n c1, .agg #[.slice none 0 0, .int .i64 0, .slice none 0 0, .int .i64 0], .agg #[.slice p4 M c4, .int .i64 0, .slice none 0 0, .slice none 0 0], .agg #[.slice p1 n c1, .int .i64 0, .int .i64 0, .slice none 0 0, .int .i64 0, .slice none 0 0, .int .i64 0, .slice p4 M c4, .int .i64 0, .slice none 0 0, .slice none 0 0, .slice none 0 0, .slice none 0 0], undef, undef, undef, undef, undef], defers := [] } X := by
    intro X G B14 p1 c1 kX CG hG o1
    refine hKK _ _ ?_
    have Z3 := ZW.on kX
    have k3 := below_on kw kX
    have o4 := oW.on kX
    have s3 := kX.size
    have ok := WO
    have l0 := (CG.2 0).1
    have l1 := (CG.2 1).1
    have l2 := (CG.2 2).1
    have l3 := (CG.2 3).1
    have l4 := (CG.2 4).1
    have l5 := (CG.2 5).1
    have l6 := (CG.2 6).1
    have l7 := (CG.2 7).1
    have l8 := (CG.2 8).1
    have l9 := (CG.2 9).1
    have l10 := (CG.2 10).1
    have l11 := (CG.2 11).1
    have l12 := (CG.2 12).1
    clear hKK i0 kT ZW oW kW kX ok
    go_wp2_with (fail)
    refine (WO _ p1 p4 c1 c4 o4.bytes).mono ?_
    rintro z w4 ⟨rfl, b4⟩
    have Z4 := Z3.on b4
    have k4 := below_on k3 b4
    have C4 := CG.on b4
    have sz : w.heap.size < w4.heap.size := Z4.1
    clear l0 l1 l2 l3 l4 l5 l6 l7 l8 l9 l10 l11 l12
    have m0 : (w4).cell? ⟨w.heap.size, 0, none⟩ = some (.slice none 0 0) := (Z4.2 0).1
    have f0 := (Z4.2 0).2
    have D0 : Cells (w4.setCell ⟨w.heap.size, 0, none⟩ (.slice none 0 0)) (w.heap.size) #[.slice none 0 0, .int .i64 0, .int .i64 0, .slice none 0 0, .int .i64 0, .slice none 0 0, .int .i64 0, .slice none 0 0, .int .i64 0, .slice none 0 0, .slice none 0 0, .slice none 0 0, .slice none 0 0] := Z4.set 0 (by simp) (.slice none 0 0)
    have m1 : ((w4.setCell ⟨w.heap.size, 0, none⟩ (.slice none 0 0))).cell? ⟨w.heap.size, 1, none⟩ = some (.int .i64 0) := (D0.2 1).1
    have f1 := (D0.2 1).2
    have D1 : Cells ((w4.setCell ⟨w.heap.size, 0, none⟩ (.slice none 0 0)).setCell ⟨w.heap.size, 1, none⟩ (.int .i64 0)) (w.heap.size) #[.slice none 0 0, .int .i64 0, .int .i64 0, .slice none 0 0, .int .i64 0, .slice none 0 0, .int .i64 0, .slice none 0 0, .int .i64 0, .slice none 0 0, .slice none 0 0, .slice none 0 0, .slice none 0 0] := D0.set 1 (by simp) (.int .i64 0)
    clear D0
    have m2 : (((w4.setCell ⟨w.heap.size, 0, none⟩ (.slice none 0 0)).setCell ⟨w.heap.size, 1, none⟩ (.int .i64 0))).cell? ⟨w.heap.size, 2, none⟩ = some (.int .i64 0) := (D1.2 2).1
    have f2 := (D1.2 2).2
    have D2 : Cells (((w4.setCell ⟨w.heap.size, 0, none⟩ (.slice none 0 0)).setCell ⟨w.heap.size, 1, none⟩ (.int .i64 0)).setCell ⟨w.heap.size, 2, none⟩ (.int .i64 0)) (w.heap.size) #[.slice none 0 0, .int .i64 0, .int .i64 0, .slice none 0 0, .int .i64 0, .slice none 0 0, .int .i64 0, .slice none 0 0, .int .i64 0, .slice none 0 0, .slice none 0 0, .slice none 0 0, .slice none 0 0] := D1.set 2 (by simp) (.int .i64 0)
    clear D1
    have m3 : ((((w4.setCell ⟨w.heap.size, 0, none⟩ (.slice none 0 0)).setCell ⟨w.heap.size, 1, none⟩ (.int .i64 0)).setCell ⟨w.heap.size, 2, none⟩ (.int .i64 0))).cell? ⟨w.heap.size, 3, none⟩ = some (.slice none 0 0) := (D2.2 3).1
    have f3 := (D2.2 3).2
    have D3 : Cells ((((w4.setCell ⟨w.heap.size, 0, none⟩ (.slice none 0 0)).setCell ⟨w.heap.size, 1, none⟩ (.int .i64 0)).setCell ⟨w.heap.size, 2, none⟩ (.int .i64 0)).setCell ⟨w.heap.size, 3, none⟩ (.slice none 0 0)) (w.heap.size) #[.slice none 0 0, .int .i64 0, .int .i64 0, .slice none 0 0, .int .i64 0, .slice none 0 0, .int .i64 0, .slice none 0 0, .int .i64 0, .slice none 0 0, .slice none 0 0, .slice none 0 0, .slice none 0 0] := D2.set 3 (by simp) (.slice none 0 0)
    clear D2
    have m4 : (((((w4.setCell ⟨w.heap.size, 0, none⟩ (.slice none 0 0)).setCell ⟨w.heap.size, 1, none⟩ (.int .i64 0)).setCell ⟨w.heap.size, 2, none⟩ (.int .i64 0)).setCell ⟨w.heap.size, 3, none⟩ (.slice none 0 0))).cell? ⟨w.heap.size, 4, none⟩ = some (.int .i64 0) := (D3.2 4).1
    have f4 := (D3.2 4).2
    have D4 : Cells (((((w4.setCell ⟨w.heap.size, 0, none⟩ (.slice none 0 0)).setCell ⟨w.heap.size, 1, none⟩ (.int .i64 0)).setCell ⟨w.heap.size, 2, none⟩ (.int .i64 0)).setCell ⟨w.heap.size, 3, none⟩ (.slice none 0 0)).setCell ⟨w.heap.size, 4, none⟩ (.int .i64 0)) (w.heap.size) #[.slice none 0 0, .int .i64 0, .int .i64 0, .slice none 0 0, .int .i64 0, .slice none 0 0, .int .i64 0, .slice none 0 0, .int .i64 0, .slice none 0 0, .slice none 0 0, .slice none 0 0, .slice none 0 0] := D3.set 4 (by simp) (.int .i64 0)
    clear D3
    have m5 : ((((((w4.setCell ⟨w.heap.size, 0, none⟩ (.slice none 0 0)).setCell ⟨w.heap.size, 1, none⟩ (.int .i64 0)).setCell ⟨w.heap.size, 2, none⟩ (.int .i64 0)).setCell ⟨w.heap.size, 3, none⟩ (.slice none 0 0)).setCell ⟨w.heap.size, 4, none⟩ (.int .i64 0))).cell? ⟨w.heap.size, 5, none⟩ = some (.slice none 0 0) := (D4.2 5).1
    have f5 := (D4.2 5).2
    have D5 : Cells ((((((w4.setCell ⟨w.heap.size, 0, none⟩ (.slice none 0 0)).setCell ⟨w.heap.size, 1, none⟩ (.int .i64 0)).setCell ⟨w.heap.size, 2, none⟩ (.int .i64 0)).setCell ⟨w.heap.size, 3, none⟩ (.slice none 0 0)).setCell ⟨w.heap.size, 4, none⟩ (.int .i64 0)).setCell ⟨w.heap.size, 5, none⟩ (.slice none 0 0)) (w.heap.size) #[.slice none 0 0, .int .i64 0, .int .i64 0, .slice none 0 0, .int .i64 0, .slice none 0 0, .int .i64 0, .slice none 0 0, .int .i64 0, .slice none 0 0, .slice none 0 0, .slice none 0 0, .slice none 0 0] := D4.set 5 (by simp) (.slice none 0 0)
    clear D4
    have m6 : (((((((w4.setCell ⟨w.heap.size, 0, none⟩ (.slice none 0 0)).setCell ⟨w.heap.size, 1, none⟩ (.int .i64 0)).setCell ⟨w.heap.size, 2, none⟩ (.int .i64 0)).setCell ⟨w.heap.size, 3, none⟩ (.slice none 0 0)).setCell ⟨w.heap.size, 4, none⟩ (.int .i64 0)).setCell ⟨w.heap.size, 5, none⟩ (.slice none 0 0))).cell? ⟨w.heap.size, 6, none⟩ = some (.int .i64 0) := (D5.2 6).1
    have f6 := (D5.2 6).2
    have D6 : Cells (((((((w4.setCell ⟨w.heap.size, 0, none⟩ (.slice none 0 0)).setCell ⟨w.heap.size, 1, none⟩ (.int .i64 0)).setCell ⟨w.heap.size, 2, none⟩ (.int .i64 0)).setCell ⟨w.heap.size, 3, none⟩ (.slice none 0 0)).setCell ⟨w.heap.size, 4, none⟩ (.int .i64 0)).setCell ⟨w.heap.size, 5, none⟩ (.slice none 0 0)).setCell ⟨w.heap.size, 6, none⟩ (.int .i64 0)) (w.heap.size) #[.slice none 0 0, .int .i64 0, .int .i64 0, .slice none 0 0, .int .i64 0, .slice none 0 0, .int .i64 0, .slice none 0 0, .int .i64 0, .slice none 0 0, .slice none 0 0, .slice none 0 0, .slice none 0 0] := D5.set 6 (by simp) (.int .i64 0)
    clear D5
    have m7 : ((((((((w4.setCell ⟨w.heap.size, 0, none⟩ (.slice none 0 0)).setCell ⟨w.heap.size, 1, none⟩ (.int .i64 0)).setCell ⟨w.heap.size, 2, none⟩ (.int .i64 0)).setCell ⟨w.heap.size, 3, none⟩ (.slice none 0 0)).setCell ⟨w.heap.size, 4, none⟩ (.int .i64 0)).setCell ⟨w.heap.size, 5, none⟩ (.slice none 0 0)).setCell ⟨w.heap.size, 6, none⟩ (.int .i64 0))).cell? ⟨w.heap.size, 7, none⟩ = some (.slice none 0 0) := (D6.2 7).1
    have f7 := (D6.2 7).2
    have D7 : Cells ((((((((w4.setCell ⟨w.heap.size, 0, none⟩ (.slice none 0 0)).setCell ⟨w.heap.size, 1, none⟩ (.int .i64 0)).setCell ⟨w.heap.size, 2, none⟩ (.int .i64 0)).setCell ⟨w.heap.size, 3, none⟩ (.slice none 0 0)).setCell ⟨w.heap.size, 4, none⟩ (.int .i64 0)).setCell ⟨w.heap.size, 5, none⟩ (.slice none 0 0)).setCell ⟨w.heap.size, 6, none⟩ (.int .i64 0)).setCell ⟨w.heap.size, 7, none⟩ (.slice none 0 0)) (w.heap.size) #[.slice none 0 0, .int .i64 0, .int .i64 0, .slice none 0 0, .int .i64 0, .slice none 0 0, .int .i64 0, .slice none 0 0, .int .i64 0, .slice none 0 0, .slice none 0 0, .slice none 0 0, .slice none 0 0] := D6.set 7 (by simp) (.slice none 0 0)
    clear D6
    have m8 : (((((((((w4.setCell ⟨w.heap.size, 0, none⟩ (.slice none 0 0)).setCell ⟨w.heap.size, 1, none⟩ (.int .i64 0)).setCell ⟨w.heap.size, 2, none⟩ (.int .i64 0)).setCell ⟨w.heap.size, 3, none⟩ (.slice none 0 0)).setCell ⟨w.heap.size, 4, none⟩ (.int .i64 0)).setCell ⟨w.heap.size, 5, none⟩ (.slice none 0 0)).setCell ⟨w.heap.size, 6, none⟩ (.int .i64 0)).setCell ⟨w.heap.size, 7, none⟩ (.slice none 0 0))).cell? ⟨w.heap.size, 8, none⟩ = some (.int .i64 0) := (D7.2 8).1
    have f8 := (D7.2 8).2
    have D8 : Cells (((((((((w4.setCell ⟨w.heap.size, 0, none⟩ (.slice none 0 0)).setCell ⟨w.heap.size, 1, none⟩ (.int .i64 0)).setCell ⟨w.heap.size, 2, none⟩ (.int .i64 0)).setCell ⟨w.heap.size, 3, none⟩ (.slice none 0 0)).setCell ⟨w.heap.size, 4, none⟩ (.int .i64 0)).setCell ⟨w.heap.size, 5, none⟩ (.slice none 0 0)).setCell ⟨w.heap.size, 6, none⟩ (.int .i64 0)).setCell ⟨w.heap.size, 7, none⟩ (.slice none 0 0)).setCell ⟨w.heap.size, 8, none⟩ (.int .i64 0)) (w.heap.size) #[.slice none 0 0, .int .i64 0, .int .i64 0, .slice none 0 0, .int .i64 0, .slice none 0 0, .int .i64 0, .slice none 0 0, .int .i64 0, .slice none 0 0, .slice none 0 0, .slice none 0 0, .slice none 0 0] := D7.set 8 (by simp) (.int .i64 0)
    clear D7
    have m9 : ((((((((((w4.setCell ⟨w.heap.size, 0, none⟩ (.slice none 0 0)).setCell ⟨w.heap.size, 1, none⟩ (.int .i64 0)).setCell ⟨w.heap.size, 2, none⟩ (.int .i64 0)).setCell ⟨w.heap.size, 3, none⟩ (.slice none 0 0)).setCell ⟨w.heap.size, 4, none⟩ (.int .i64 0)).setCell ⟨w.heap.size, 5, none⟩ (.slice none 0 0)).setCell ⟨w.heap.size, 6, none⟩ (.int .i64 0)).setCell ⟨w.heap.size, 7, none⟩ (.slice none 0 0)).setCell ⟨w.heap.size, 8, none⟩ (.int .i64 0))).cell? ⟨w.heap.size, 9, none⟩ = some (.slice none 0 0) := (D8.2 9).1
    have f9 := (D8.2 9).2
    have D9 : Cells ((((((((((w4.setCell ⟨w.heap.size, 0, none⟩ (.slice none 0 0)).setCell ⟨w.heap.size, 1, none⟩ (.int .i64 0)).setCell ⟨w.heap.size, 2, none⟩ (.int .i64 0)).setCell ⟨w.heap.size, 3, none⟩ (.slice none 0 0)).setCell ⟨w.heap.size, 4, none⟩ (.int .i64 0)).setCell ⟨w.heap.size, 5, none⟩ (.slice none 0 0)).setCell ⟨w.heap.size, 6, none⟩ (.int .i64 0)).setCell ⟨w.heap.size, 7, none⟩ (.slice none 0 0)).setCell ⟨w.heap.size, 8, none⟩ (.int .i64 0)).setCell ⟨w.heap.size, 9, none⟩ (.slice none 0 0)) (w.heap.size) #[.slice none 0 0, .int .i64 0, .int .i64 0, .slice none 0 0, .int .i64 0, .slice none 0 0, .int .i64 0, .slice none 0 0, .int .i64 0, .slice none 0 0, .slice none 0 0, .slice none 0 0, .slice none 0 0] := D8.set 9 (by simp) (.slice none 0 0)
    clear D8
    have m10 : (((((((((((w4.setCell ⟨w.heap.size, 0, none⟩ (.slice none 0 0)).setCell ⟨w.heap.size, 1, none⟩ (.int .i64 0)).setCell ⟨w.heap.size, 2, none⟩ (.int .i64 0)).setCell ⟨w.heap.size, 3, none⟩ (.slice none 0 0)).setCell ⟨w.heap.size, 4, none⟩ (.int .i64 0)).setCell ⟨w.heap.size, 5, none⟩ (.slice none 0 0)).setCell ⟨w.heap.size, 6, none⟩ (.int .i64 0)).setCell ⟨w.heap.size, 7, none⟩ (.slice none 0 0)).setCell ⟨w.heap.size, 8, none⟩ (.int .i64 0)).setCell ⟨w.heap.size, 9, none⟩ (.slice none 0 0))).cell? ⟨w.heap.size, 10, none⟩ = some (.slice none 0 0) := (D9.2 10).1
    have f10 := (D9.2 10).2
    have D10 : Cells (((((((((((w4.setCell ⟨w.heap.size, 0, none⟩ (.slice none 0 0)).setCell ⟨w.heap.size, 1, none⟩ (.int .i64 0)).setCell ⟨w.heap.size, 2, none⟩ (.int .i64 0)).setCell ⟨w.heap.size, 3, none⟩ (.slice none 0 0)).setCell ⟨w.heap.size, 4, none⟩ (.int .i64 0)).setCell ⟨w.heap.size, 5, none⟩ (.slice none 0 0)).setCell ⟨w.heap.size, 6, none⟩ (.int .i64 0)).setCell ⟨w.heap.size, 7, none⟩ (.slice none 0 0)).setCell ⟨w.heap.size, 8, none⟩ (.int .i64 0)).setCell ⟨w.heap.size, 9, none⟩ (.slice none 0 0)).setCell ⟨w.heap.size, 10, none⟩ (.slice none 0 0)) (w.heap.size) #[.slice none 0 0, .int .i64 0, .int .i64 0, .slice none 0 0, .int .i64 0, .slice none 0 0, .int .i64 0, .slice none 0 0, .int .i64 0, .slice none 0 0, .slice none 0 0, .slice none 0 0, .slice none 0 0] := D9.set 10 (by simp) (.slice none 0 0)
    clear D9
    have m11 : ((((((((((((w4.setCell ⟨w.heap.size, 0, none⟩ (.slice none 0 0)).setCell ⟨w.heap.size, 1, none⟩ (.int .i64 0)).setCell ⟨w.heap.size, 2, none⟩ (.int .i64 0)).setCell ⟨w.heap.size, 3, none⟩ (.slice none 0 0)).setCell ⟨w.heap.size, 4, none⟩ (.int .i64 0)).setCell ⟨w.heap.size, 5, none⟩ (.slice none 0 0)).setCell ⟨w.heap.size, 6, none⟩ (.int .i64 0)).setCell ⟨w.heap.size, 7, none⟩ (.slice none 0 0)).setCell ⟨w.heap.size, 8, none⟩ (.int .i64 0)).setCell ⟨w.heap.size, 9, none⟩ (.slice none 0 0)).setCell ⟨w.heap.size, 10, none⟩ (.slice none 0 0))).cell? ⟨w.heap.size, 11, none⟩ = some (.slice none 0 0) := (D10.2 11).1
    have f11 := (D10.2 11).2
    have D11 : Cells ((((((((((((w4.setCell ⟨w.heap.size, 0, none⟩ (.slice none 0 0)).setCell ⟨w.heap.size, 1, none⟩ (.int .i64 0)).setCell ⟨w.heap.size, 2, none⟩ (.int .i64 0)).setCell ⟨w.heap.size, 3, none⟩ (.slice none 0 0)).setCell ⟨w.heap.size, 4, none⟩ (.int .i64 0)).setCell ⟨w.heap.size, 5, none⟩ (.slice none 0 0)).setCell ⟨w.heap.size, 6, none⟩ (.int .i64 0)).setCell ⟨w.heap.size, 7, none⟩ (.slice none 0 0)).setCell ⟨w.heap.size, 8, none⟩ (.int .i64 0)).setCell ⟨w.heap.size, 9, none⟩ (.slice none 0 0)).setCell ⟨w.heap.size, 10, none⟩ (.slice none 0 0)).setCell ⟨w.heap.size, 11, none⟩ (.slice none 0 0)) (w.heap.size) #[.slice none 0 0, .int .i64 0, .int .i64 0, .slice none 0 0, .int .i64 0, .slice none 0 0, .int .i64 0, .slice none 0 0, .int .i64 0, .slice none 0 0, .slice none 0 0, .slice none 0 0, .slice none 0 0] := D10.set 11 (by simp) (.slice none 0 0)
    clear D10
    have m12 : (((((((((((((w4.setCell ⟨w.heap.size, 0, none⟩ (.slice none 0 0)).setCell ⟨w.heap.size, 1, none⟩ (.int .i64 0)).setCell ⟨w.heap.size, 2, none⟩ (.int .i64 0)).setCell ⟨w.heap.size, 3, none⟩ (.slice none 0 0)).setCell ⟨w.heap.size, 4, none⟩ (.int .i64 0)).setCell ⟨w.heap.size, 5, none⟩ (.slice none 0 0)).setCell ⟨w.heap.size, 6, none⟩ (.int .i64 0)).setCell ⟨w.heap.size, 7, none⟩ (.slice none 0 0)).setCell ⟨w.heap.size, 8, none⟩ (.int .i64 0)).setCell ⟨w.heap.size, 9, none⟩ (.slice none 0 0)).setCell ⟨w.heap.size, 10, none⟩ (.slice none 0 0)).setCell ⟨w.heap.size, 11, none⟩ (.slice none 0 0))).cell? ⟨w.heap.size, 12, none⟩ = some (.slice none 0 0) := (D11.2 12).1
    have f12 := (D11.2 12).2
    have D12 : Cells (((((((((((((w4.setCell ⟨w.heap.size, 0, none⟩ (.slice none 0 0)).setCell ⟨w.heap.size, 1, none⟩ (.int .i64 0)).setCell ⟨w.heap.size, 2, none⟩ (.int .i64 0)).setCell ⟨w.heap.size, 3, none⟩ (.slice none 0 0)).setCell ⟨w.heap.size, 4, none⟩ (.int .i64 0)).setCell ⟨w.heap.size, 5, none⟩ (.slice none 0 0)).setCell ⟨w.heap.size, 6, none⟩ (.int .i64 0)).setCell ⟨w.heap.size, 7, none⟩ (.slice none 0 0)).setCell ⟨w.heap.size, 8, none⟩ (.int .i64 0)).setCell ⟨w.heap.size, 9, none⟩ (.slice none 0 0)).setCell ⟨w.heap.size, 10, none⟩ (.slice none 0 0)).setCell ⟨w.heap.size, 11, none⟩ (.slice none 0 0)).setCell ⟨w.heap.size, 12, none⟩ (.slice none 0 0)) (w.heap.size) #[.slice none 0 0, .int .i64 0, .int .i64 0, .slice none 0 0, .int .i64 0, .slice none 0 0, .int .i64 0, .slice none 0 0, .int .i64 0, .slice none 0 0, .slice none 0 0, .slice none 0 0, .slice none 0 0] := D11.set 12 (by simp) (.slice none 0 0)
    clear D11
    clear D12
    have k5 : Below w.heap.size w (((((((((((((w4.setCell ⟨w.heap.size, 0, none⟩ (.slice none 0 0)).setCell ⟨w.heap.size, 1, none⟩ (.int .i64 0)).setCell ⟨w.heap.size, 2, none⟩ (.int .i64 0)).setCell ⟨w.heap.size, 3, none⟩ (.slice none 0 0)).setCell ⟨w.heap.size, 4, none⟩ (.int .i64 0)).setCell ⟨w.heap.size, 5, none⟩ (.slice none 0 0)).setCell ⟨w.heap.size, 6, none⟩ (.int .i64 0)).setCell ⟨w.heap.size, 7, none⟩ (.slice none 0 0)).setCell ⟨w.heap.size, 8, none⟩ (.int .i64 0)).setCell ⟨w.heap.size, 9, none⟩ (.slice none 0 0)).setCell ⟨w.heap.size, 10, none⟩ (.slice none 0 0)).setCell ⟨w.heap.size, 11, none⟩ (.slice none 0 0)).setCell ⟨w.heap.size, 12, none⟩ (.slice none 0 0)) := ((((((((((((((((((((((((((k4).setCell (show w.heap.size ≤ w.heap.size by omega) _)).setCell (show w.heap.size ≤ w.heap.size by omega) _)).setCell (show w.heap.size ≤ w.heap.size by omega) _)).setCell (show w.heap.size ≤ w.heap.size by omega) _)).setCell (show w.heap.size ≤ w.heap.size by omega) _)).setCell (show w.heap.size ≤ w.heap.size by omega) _)).setCell (show w.heap.size ≤ w.heap.size by omega) _)).setCell (show w.heap.size ≤ w.heap.size by omega) _)).setCell (show w.heap.size ≤ w.heap.size by omega) _)).setCell (show w.heap.size ≤ w.heap.size by omega) _)).setCell (show w.heap.size ≤ w.heap.size by omega) _)).setCell (show w.heap.size ≤ w.heap.size by omega) _)).setCell (show w.heap.size ≤ w.heap.size by omega) _)
    have zE : Cells (((((((((((((w4.setCell ⟨w.heap.size, 0, none⟩ (.slice none 0 0)).setCell ⟨w.heap.size, 1, none⟩ (.int .i64 0)).setCell ⟨w.heap.size, 2, none⟩ (.int .i64 0)).setCell ⟨w.heap.size, 3, none⟩ (.slice none 0 0)).setCell ⟨w.heap.size, 4, none⟩ (.int .i64 0)).setCell ⟨w.heap.size, 5, none⟩ (.slice none 0 0)).setCell ⟨w.heap.size, 6, none⟩ (.int .i64 0)).setCell ⟨w.heap.size, 7, none⟩ (.slice none 0 0)).setCell ⟨w.heap.size, 8, none⟩ (.int .i64 0)).setCell ⟨w.heap.size, 9, none⟩ (.slice none 0 0)).setCell ⟨w.heap.size, 10, none⟩ (.slice none 0 0)).setCell ⟨w.heap.size, 11, none⟩ (.slice none 0 0)).setCell ⟨w.heap.size, 12, none⟩ (.slice none 0 0)) w.heap.size #[.slice none 0 0, .int .i64 0, .int .i64 0, .slice none 0 0, .int .i64 0, .slice none 0 0, .int .i64 0, .slice none 0 0, .int .i64 0, .slice none 0 0, .slice none 0 0, .slice none 0 0, .slice none 0 0] := Cells.setAll Z4 [.slice none 0 0, .int .i64 0, .int .i64 0, .slice none 0 0, .int .i64 0, .slice none 0 0, .int .i64 0, .slice none 0 0, .int .i64 0, .slice none 0 0, .slice none 0 0, .slice none 0 0, .slice none 0 0] rfl
    have hR := run_loadVar_mid (P := Tryz.prog) _ w.heap.size 0 32 [.slice none 0 0, .int .i64 0, .int .i64 0, .slice none 0 0, .int .i64 0, .slice none 0 0, .int .i64 0, .slice none 0 0, .int .i64 0, .slice none 0 0, .slice none 0 0, .slice none 0 0, .slice none 0 0] _ (Cells.range zE) Tryz.underlying32 rfl (sizeWorld _ _ _ _ _ _ _ _ _ _ _ _ _)
    clear zE
    go_wp2_with (fail)
    (try simp only [Exit.inBlock, Exit.then])
    refine bodyPost_ret (v := .tuple #[.agg #[.slice none 0 0, .int .i64 0, .int .i64 0, .slice none 0 0, .int .i64 0, .slice none 0 0, .int .i64 0, .slice none 0 0, .int .i64 0, .slice none 0 0, .slice none 0 0, .slice none 0 0, .slice none 0 0], .bool false]) ?_ rfl ⟨rfl, k5⟩
    simp [results, asAddr, hR]
  clear hKK WO
  refine anyT_takeT (i := 1) (v := .slice p n c) rfl (by kernel_rfl) (by kernel_rfl) (by kernel_rfl) (by kernel_rfl) (fun _ _ _ h => h) (Or.inl ⟨by rfl, fun X hSw => by ((try dsimp only at hSw); go_simp)⟩) kT (fun _ => trivial) ?_
  (try simp only [Act.put, List.getElem_toArray, List.getElem_cons_zero, List.getElem_cons_succ, List.setIfInBounds_toArray, List.set_cons_zero, List.set_cons_succ])
  refine anyT_takeT (i := 4) (v := .agg #[.slice p4 M c4, .int .i64 0, .slice none 0 0, .slice none 0 0]) rfl (by kernel_rfl) (by kernel_rfl) (by kernel_rfl) (by kernel_rfl) (fun _ _ _ h => h) (Or.inl ⟨by rfl, fun X hSw => by (have q0 := (hSw.2 0).1; have q1 := (hSw.2 1).1; have q2 := (hSw.2 2).1; have q3 := (hSw.2 3).1; go_simp)⟩) kT (fun _ => trivial) ?_
  (try simp only [Act.put, List.getElem_toArray, List.getElem_cons_zero, List.getElem_cons_succ, List.setIfInBounds_toArray, List.set_cons_zero, List.set_cons_succ])
  refine anyT_two (i := 0) (j := 6) (by kernel_rfl) rfl rfl (fun K hK => ?_) (fun K hK => ?_)
  · go_simp
    have e1 := emp_made W W.heap.size rfl
    have b1 : Below W.heap.size W (W.alloc (.cells #[] 5)) := (Below.refl _ _).alloc (Nat.le_refl _) _
    have kwY1 := below_on kW b1
    have s1 := kW.size
    refine hK.out _ _ (kT.on kwY1) (fun _ => trivial) ?_
    clear hK K
    generalize W.alloc (.cells #[] 5) = wY1 at *
    clear b1
    refine anyT_two (i := 2) (j := 6) (by kernel_rfl) rfl rfl (fun K hK => ?_) (fun K hK => ?_)
    · refine step_fresh_all hi hz0 hz1 hz2 (.tmp 14) (.tmp 15) 22 Tryz.underlying22 rfl rfl rfl rfl e1 (in_below i0 kwY1) hx (by omega) kwY1 s1 ?_
      intro g2 cap2 wY2 r2 hg2 hl2 hs2 gr2 kwY2
      have gW2 : W.heap.size ≤ g2 := by have q1 := s1; have q2 := kwY1.size; rcases hg2 with h | h <;> omega
      refine hK.out _ _ (kT.on kwY2) (fun _ => trivial) ?_
      clear hK K
      (try simp only [Act.put, List.getElem_toArray, List.getElem_cons_zero, List.getElem_cons_succ, List.setIfInBounds_toArray, List.set_cons_zero, List.set_cons_succ])
      refine anyT_two (i := 3) (j := 6) (by kernel_rfl) rfl rfl (fun K hK => ?_) (fun K hK => ?_)
      · go_simp
        refine (specPostNew_any _).mono ?_
        rintro e wY3 ⟨rfl, b3⟩
        have kwY3 := below_on kwY2 b3
        have r3 := rowAt_below r2 b3
        have hl3 := Nat.lt_of_lt_of_le hl2 b3.size
        go_wp2_with (fail)
        refine hK.out _ _ (kT.on kwY3) (fun _ => trivial) ?_
        clear hK K
        refine anyT_takeT (i := 5) (v := .agg #[.slice (some ⟨g2, 0, none⟩) n cap2, .int .i64 0, .int .i64 0, .slice none 0 0, .int .i64 0, .slice none 0 0, .int .i64 0, .slice p4 M c4, .int .i64 0, .slice none 0 0, .slice none 0 0, .slice none 0 0, .slice none 0 0]) rfl (by kernel_rfl) (by kernel_rfl) (by kernel_rfl) (by kernel_rfl) (fun _ _ _ h => h) (Or.inl ⟨by rfl, fun X hSw => by (go_simp)⟩) (kT.on kwY3) (fun _ => trivial) ?_
        (try simp only [Act.put, List.getElem_toArray, List.getElem_cons_zero, List.getElem_cons_succ, List.setIfInBounds_toArray, List.set_cons_zero, List.set_cons_succ])
        refine anyT_one (i := 6) (by kernel_rfl) rfl (fun K hK => ?_)
        go_simp
        have z4 := Cells.made wY3 #[.slice none 0 0, .int .i64 0, .int .i64 0, .slice none 0 0, .int .i64 0, .slice none 0 0, .int .i64 0, .slice none 0 0, .int .i64 0, .slice none 0 0, .slice none 0 0, .slice none 0 0, .slice none 0 0] 32
        have b4 : Below wY3.heap.size wY3 (wY3.alloc (.cells #[.slice none 0 0, .int .i64 0, .int .i64 0, .slice none 0 0, .int .i64 0, .slice none 0 0, .int .i64 0, .slice none 0 0, .int .i64 0, .slice none 0 0, .slice none 0 0, .slice none 0 0, .slice none 0 0] 32)) := (Below.refl _ _).alloc (Nat.le_refl _) _
        have kwY4 := below_on kwY3 b4
        have gG4 := kwY3.size
        have r4 := rowAt_below r3 b4
        have nr4 : g2 ≠ wY3.heap.size := Nat.ne_of_lt hl3
        have hl4 := Nat.lt_of_lt_of_le hl3 b4.size
        refine hK.out _ _ (kT.on kwY4) (fun _ => trivial) ?_
        clear hK K
        generalize wY3.alloc (.cells #[.slice none 0 0, .int .i64 0, .int .i64 0, .slice none 0 0, .int .i64 0, .slice none 0 0, .int .i64 0, .slice none 0 0, .int .i64 0, .slice none 0 0, .slice none 0 0, .slice none 0 0, .slice none 0 0] 32) = wY4 at *
        clear b4
        refine anyT_one (i := 7) (by kernel_rfl) rfl (fun K hK => ?_)
        have gv5 := setCells_grown (wY3.heap.size) [.slice (some ⟨g2, 0, none⟩) n cap2, .int .i64 0, .int .i64 0, .slice none 0 0, .int .i64 0, .slice none 0 0, .int .i64 0, .slice p4 M c4, .int .i64 0, .slice none 0 0, .slice none 0 0, .slice none 0 0, .slice none 0 0] 0 wY4
        have v5 := Cells.setAll z4 [.slice (some ⟨g2, 0, none⟩) n cap2, .int .i64 0, .int .i64 0, .slice none 0 0, .int .i64 0, .slice none 0 0, .int .i64 0, .slice p4 M c4, .int .i64 0, .slice none 0 0, .slice none 0 0, .slice none 0 0, .slice none 0 0] rfl
        have gg5 : W.heap.size ≤ wY3.heap.size := (by assumption)
        have kE5 := setCells_below (wY3.heap.size) W.heap.size gg5 [.slice (some ⟨g2, 0, none⟩) n cap2, .int .i64 0, .int .i64 0, .slice none 0 0, .int .i64 0, .slice none 0 0, .int .i64 0, .slice p4 M c4, .int .i64 0, .slice none 0 0, .slice none 0 0, .slice none 0 0, .slice none 0 0] wY4 kwY4 kwY4.size
        have rE5 := rowAt_grown r4 gv5 nr4
        have lE5 := Nat.lt_of_lt_of_le hl4 gv5.size
        refine wp_store_mid 32 _ _ rfl (wY3.heap.size) 0 #[.slice (some ⟨g2, 0, none⟩) n cap2, .int .i64 0, .int .i64 0, .slice none 0 0, .int .i64 0, .slice none 0 0, .int .i64 0, .slice p4 M c4, .int .i64 0, .slice none 0 0, .slice none 0 0, .slice none 0 0, .slice none 0 0] rfl rfl z4.there (sizeWorld _ _ _ _ _ _ _ _ _ _ _ _ _) (all_oneCell_toArray (by simp [Value.oneCell'])) ?_
        refine hK.out _ _ (kT.on kE5) (fun _ => trivial) ?_
        clear hK K
        refine anyT_done (by kernel_rfl) ?_ _
        refine NoPanic.normal ?_
        exact TL _ _ _ _ _ kE5 v5 gg5 ⟨owns_mono rE5 gW2, fun k hk => by cases hk; exact lE5⟩
      · go_simp
        have z6 := Cells.made wY2 #[.slice none 0 0, .int .i64 0, .int .i64 0, .slice none 0 0, .int .i64 0, .slice none 0 0, .int .i64 0, .slice none 0 0, .int .i64 0, .slice none 0 0, .slice none 0 0, .slice none 0 0, .slice none 0 0] 32
        have b6 : Below wY2.heap.size wY2 (wY2.alloc (.cells #[.slice none 0 0, .int .i64 0, .int .i64 0, .slice none 0 0, .int .i64 0, .slice none 0 0, .int .i64 0, .slice none 0 0, .int .i64 0, .slice none 0 0, .slice none 0 0, .slice none 0 0, .slice none 0 0] 32)) := (Below.refl _ _).alloc (Nat.le_refl _) _
        have kwY6 := below_on kwY2 b6
        have gG6 := kwY2.size
        have r6 := rowAt_below r2 b6
        have nr6 : g2 ≠ wY2.heap.size := Nat.ne_of_lt hl2
        have hl6 := Nat.lt_of_lt_of_le hl2 b6.size
        refine hK.out _ _ (kT.on kwY6) (fun _ => trivial) ?_
        clear hK K
        generalize wY2.alloc (.cells #[.slice none 0 0, .int .i64 0, .int .i64 0, .slice none 0 0, .int .i64 0, .slice none 0 0, .int .i64 0, .slice none 0 0, .int .i64 0, .slice none 0 0, .slice none 0 0, .slice none 0 0, .slice none 0 0] 32) = wY6 at *
        clear b6
        refine anyT_one (i := 3) (by kernel_rfl) rfl (fun K hK => ?_)
        go_simp
        refine (specPostNew_any _).mono ?_
        rintro e wY7 ⟨rfl, b7⟩
        have kwY7 := below_on kwY6 b7
        have r7 := rowAt_below r6 b7
        have hl7 := Nat.lt_of_lt_of_le hl6 b7.size
        have z7 := z6.on b7
        go_wp2_with (fail)
        refine hK.out _ _ (kT.on kwY7) (fun _ => trivial) ?_
        clear hK K
        refine anyT_takeT (i := 5) (v := .agg #[.slice (some ⟨g2, 0, none⟩) n cap2, .int .i64 0, .int .i64 0, .slice none 0 0, .int .i64 0, .slice none 0 0, .int .i64 0, .slice p4 M c4, .int .i64 0, .slice none 0 0, .slice none 0 0, .slice none 0 0, .slice none 0 0]) rfl (by kernel_rfl) (by kernel_rfl) (by kernel_rfl) (by kernel_rfl) (fun _ _ _ h => h) (Or.inl ⟨by rfl, fun X hSw => by (go_simp)⟩) (kT.on kwY7) (fun _ => trivial) ?_
        (try simp only [Act.put, List.getElem_toArray, List.getElem_cons_zero, List.getElem_cons_succ, List.setIfInBounds_toArray, List.set_cons_zero, List.set_cons_succ])
        refine anyT_one (i := 7) (by kernel_rfl) rfl (fun K hK => ?_)
        have gv8 := setCells_grown (wY2.heap.size) [.slice (some ⟨g2, 0, none⟩) n cap2, .int .i64 0, .int .i64 0, .slice none 0 0, .int .i64 0, .slice none 0 0, .int .i64 0, .slice p4 M c4, .int .i64 0, .slice none 0 0, .slice none 0 0, .slice none 0 0, .slice none 0 0] 0 wY7
        have v8 := Cells.setAll z7 [.slice (some ⟨g2, 0, none⟩) n cap2, .int .i64 0, .int .i64 0, .slice none 0 0, .int .i64 0, .slice none 0 0, .int .i64 0, .slice p4 M c4, .int .i64 0, .slice none 0 0, .slice none 0 0, .slice none 0 0, .slice none 0 0] rfl
        have gg8 : W.heap.size ≤ wY2.heap.size := (by assumption)
        have kE8 := setCells_below (wY2.heap.size) W.heap.size gg8 [.slice (some ⟨g2, 0, none⟩) n cap2, .int .i64 0, .int .i64 0, .slice none 0 0, .int .i64 0, .slice none 0 0, .int .i64 0, .slice p4 M c4, .int .i64 0, .slice none 0 0, .slice none 0 0, .slice none 0 0, .slice none 0 0] wY7 kwY7 kwY7.size
        have rE8 := rowAt_grown r7 gv8 nr6
        have lE8 := Nat.lt_of_lt_of_le hl7 gv8.size
        refine wp_store_mid 32 _ _ rfl (wY2.heap.size) 0 #[.slice (some ⟨g2, 0, none⟩) n cap2, .int .i64 0, .int .i64 0, .slice none 0 0, .int .i64 0, .slice none 0 0, .int .i64 0, .slice p4 M c4, .int .i64 0, .slice none 0 0, .slice none 0 0, .slice none 0 0, .slice none 0 0] rfl rfl z7.there (sizeWorld _ _ _ _ _ _ _ _ _ _ _ _ _) (all_oneCell_toArray (by simp [Value.oneCell'])) ?_
        refine hK.out _ _ (kT.on kE8) (fun _ => trivial) ?_
        clear hK K
        refine anyT_done (by kernel_rfl) ?_ _
        refine NoPanic.normal ?_
        exact TL _ _ _ _ _ kE8 v8 gg8 ⟨owns_mono rE8 gW2, fun k hk => by cases hk; exact lE8⟩
    · go_simp
      have z9 := Cells.made wY1 #[.slice none 0 0, .int .i64 0, .int .i64 0, .slice none 0 0, .int .i64 0, .slice none 0 0, .int .i64 0, .slice none 0 0, .int .i64 0, .slice none 0 0, .slice none 0 0, .slice none 0 0, .slice none 0 0] 32
      have b9 : Below wY1.heap.size wY1 (wY1.alloc (.cells #[.slice none 0 0, .int .i64 0, .int .i64 0, .slice none 0 0, .int .i64 0, .slice none 0 0, .int .i64 0, .slice none 0 0, .int .i64 0, .slice none 0 0, .slice none 0 0, .slice none 0 0, .slice none 0 0] 32)) := (Below.refl _ _).alloc (Nat.le_refl _) _
      have kwY9 := below_on kwY1 b9
      have gG9 := kwY1.size
      have e9 := emp_below e1 b9
      have ne9 : wY1.heap.size ≠ W.heap.size := Nat.ne_of_gt (Emp.lt e1)
      refine hK.out _ _ (kT.on kwY9) (fun _ => trivial) ?_
      clear hK K
      generalize wY1.alloc (.cells #[.slice none 0 0, .int .i64 0, .int .i64 0, .slice none 0 0, .int .i64 0, .slice none 0 0, .int .i64 0, .slice none 0 0, .int .i64 0, .slice none 0 0, .slice none 0 0, .slice none 0 0, .slice none 0 0] 32) = wY9 at *
      clear b9
      refine anyT_one (i := 2) (by kernel_rfl) rfl (fun K hK => ?_)
      refine step_fresh_all hi hz0 hz1 hz2 (.tmp 14) (.tmp 15) 22 Tryz.underlying22 rfl rfl rfl rfl e9 (in_below i0 kwY9) hx (by omega) kwY9 s1 ?_
      intro g10 cap10 wY10 r10 hg10 hl10 hs10 gr10 kwY10
      have gW10 : W.heap.size ≤ g10 := by have q1 := s1; have q2 := kwY9.size; rcases hg10 with h | h <;> omega
      have z10 := Cells.grown z9 gr10 (fun h => ne9 (Option.some.inj h))
      have nr10 : g10 ≠ wY1.heap.size := by have q1 := ne9; have q2 := z9.1; rcases hg10 with h | h <;> omega
      refine hK.out _ _ (kT.on kwY10) (fun _ => trivial) ?_
      clear hK K
      (try simp only [Act.put, List.getElem_toArray, List.getElem_cons_zero, List.getElem_cons_succ, List.setIfInBounds_toArray, List.set_cons_zero, List.set_cons_succ])
      refine anyT_one (i := 3) (by kernel_rfl) rfl (fun K hK => ?_)
      go_simp
      refine (specPostNew_any _).mono ?_
      rintro e wY11 ⟨rfl, b11⟩
      have kwY11 := below_on kwY10 b11
      have r11 := rowAt_below r10 b11
      have hl11 := Nat.lt_of_lt_of_le hl10 b11.size
      have z11 := z10.on b11
      go_wp2_with (fail)
      refine hK.out _ _ (kT.on kwY11) (fun _ => trivial) ?_
      clear hK K
      refine anyT_takeT (i := 5) (v := .agg #[.slice (some ⟨g10, 0, none⟩) n cap10, .int .i64 0, .int .i64 0, .slice none 0 0, .int .i64 0, .slice none 0 0, .int .i64 0, .slice p4 M c4, .int .i64 0, .slice none 0 0, .slice none 0 0, .slice none 0 0, .slice none 0 0]) rfl (by kernel_rfl) (by kernel_rfl) (by kernel_rfl) (by kernel_rfl) (fun _ _ _ h => h) (Or.inl ⟨by rfl, fun X hSw => by (go_simp)⟩) (kT.on kwY11) (fun _ => trivial) ?_
      (try simp only [Act.put, List.getElem_toArray, List.getElem_cons_zero, List.getElem_cons_succ, List.setIfInBounds_toArray, List.set_cons_zero, List.set_cons_succ])
      refine anyT_one (i := 7) (by kernel_rfl) rfl (fun K hK => ?_)
      have gv12 := setCells_grown (wY1.heap.size) [.slice (some ⟨g10, 0, none⟩) n cap10, .int .i64 0, .int .i64 0, .slice none 0 0, .int .i64 0, .slice none 0 0, .int .i64 0, .slice p4 M c4, .int .i64 0, .slice none 0 0, .slice none 0 0, .slice none 0 0, .slice none 0 0] 0 wY11
      have v12 := Cells.setAll z11 [.slice (some ⟨g10, 0, none⟩) n cap10, .int .i64 0, .int .i64 0, .slice none 0 0, .int .i64 0, .slice none 0 0, .int .i64 0, .slice p4 M c4, .int .i64 0, .slice none 0 0, .slice none 0 0, .slice none 0 0, .slice none 0 0] rfl
      have gg12 : W.heap.size ≤ wY1.heap.size := (by assumption)
      have kE12 := setCells_below (wY1.heap.size) W.heap.size gg12 [.slice (some ⟨g10, 0, none⟩) n cap10, .int .i64 0, .int .i64 0, .slice none 0 0, .int .i64 0, .slice none 0 0, .int .i64 0, .slice p4 M c4, .int .i64 0, .slice none 0 0, .slice none 0 0, .slice none 0 0, .slice none 0 0] wY11 kwY11 kwY11.size
      have rE12 := rowAt_grown r11 gv12 nr10
      have lE12 := Nat.lt_of_lt_of_le hl11 gv12.size
      refine wp_store_mid 32 _ _ rfl (wY1.heap.size) 0 #[.slice (some ⟨g10, 0, none⟩) n cap10, .int .i64 0, .int .i64 0, .slice none 0 0, .int .i64 0, .slice none 0 0, .int .i64 0, .slice p4 M c4, .int .i64 0, .slice none 0 0, .slice none 0 0, .slice none 0 0, .slice none 0 0] rfl rfl z11.there (sizeWorld _ _ _ _ _ _ _ _ _ _ _ _ _) (all_oneCell_toArray (by simp [Value.oneCell'])) ?_
      refine hK.out _ _ (kT.on kE12) (fun _ => trivial) ?_
      clear hK K
      refine anyT_done (by kernel_rfl) ?_ _
      refine NoPanic.normal ?_
      exact TL _ _ _ _ _ kE12 v12 gg12 ⟨owns_mono rE12 gW10, fun k hk => by cases hk; exact lE12⟩
  · go_simp
    have z13 := Cells.made W #[.slice none 0 0, .int .i64 0, .int .i64 0, .slice none 0 0, .int .i64 0, .slice none 0 0, .int .i64 0, .slice none 0 0, .int .i64 0, .slice none 0 0, .slice none 0 0, .slice none 0 0, .slice none 0 0] 32
    have b13 : Below W.heap.size W (W.alloc (.cells #[.slice none 0 0, .int .i64 0, .int .i64 0, .slice none 0 0, .int .i64 0, .slice none 0 0, .int .i64 0, .slice none 0 0, .int .i64 0, .slice none 0 0, .slice none 0 0, .slice none 0 0, .slice none 0 0] 32)) := (Below.refl _ _).alloc (Nat.le_refl _) _
    have kwY13 := below_on kW b13
    have gG13 := kW.size
    refine hK.out _ _ (kT.on kwY13) (fun _ => trivial) ?_
    clear hK K
    generalize W.alloc (.cells #[.slice none 0 0, .int .i64 0, .int .i64 0, .slice none 0 0, .int .i64 0, .slice none 0 0, .int .i64 0, .slice none 0 0, .int .i64 0, .slice none 0 0, .slice none 0 0, .slice none 0 0, .slice none 0 0] 32) = wY13 at *
    clear b13
    refine anyT_one (i := 0) (by kernel_rfl) rfl (fun K hK => ?_)
    go_simp
    have e14 := emp_made wY13 wY13.heap.size rfl
    have b14 : Below wY13.heap.size wY13 (wY13.alloc (.cells #[] 5)) := (Below.refl _ _).alloc (Nat.le_refl _) _
    have kwY14 := below_on kwY13 b14
    have s14 := kwY13.size
    have z14 := z13.on b14
    have ne14 : W.heap.size ≠ wY13.heap.size := Nat.ne_of_lt z13.1
    refine hK.out _ _ (kT.on kwY14) (fun _ => trivial) ?_
    clear hK K
    generalize wY13.alloc (.cells #[] 5) = wY14 at *
    clear b14
    refine anyT_one (i := 2) (by kernel_rfl) rfl (fun K hK => ?_)
    refine step_fresh_all hi hz0 hz1 hz2 (.tmp 14) (.tmp 15) 22 Tryz.underlying22 rfl rfl rfl rfl e14 (in_below i0 kwY14) hx (by omega) kwY14 s14 ?_
    intro g15 cap15 wY15 r15 hg15 hl15 hs15 gr15 kwY15
    have gW15 : W.heap.size ≤ g15 := by have q1 := s14; have q2 := kwY14.size; rcases hg15 with h | h <;> omega
    have z15 := Cells.grown z14 gr15 (fun h => ne14 (Option.some.inj h))
    have nr15 : g15 ≠ W.heap.size := by have q1 := ne14; have q2 := z14.1; rcases hg15 with h | h <;> omega
    refine hK.out _ _ (kT.on kwY15) (fun _ => trivial) ?_
    clear hK K
    (try simp only [Act.put, List.getElem_toArray, List.getElem_cons_zero, List.getElem_cons_succ, List.setIfInBounds_toArray, List.set_cons_zero, List.set_cons_succ])
    refine anyT_one (i := 3) (by kernel_rfl) rfl (fun K hK => ?_)
    go_simp
    refine (specPostNew_any _).mono ?_
    rintro e wY16 ⟨rfl, b16⟩
    have kwY16 := below_on kwY15 b16
    have r16 := rowAt_below r15 b16
    have hl16 := Nat.lt_of_lt_of_le hl15 b16.size
    have z16 := z15.on b16
    go_wp2_with (fail)
    refine hK.out _ _ (kT.on kwY16) (fun _ => trivial) ?_
    clear hK K
    refine anyT_takeT (i := 5) (v := .agg #[.slice (some ⟨g15, 0, none⟩) n cap15, .int .i64 0, .int .i64 0, .slice none 0 0, .int .i64 0, .slice none 0 0, .int .i64 0, .slice p4 M c4, .int .i64 0, .slice none 0 0, .slice none 0 0, .slice none 0 0, .slice none 0 0]) rfl (by kernel_rfl) (by kernel_rfl) (by kernel_rfl) (by kernel_rfl) (fun _ _ _ h => h) (Or.inl ⟨by rfl, fun X hSw => by (go_simp)⟩) (kT.on kwY16) (fun _ => trivial) ?_
    (try simp only [Act.put, List.getElem_toArray, List.getElem_cons_zero, List.getElem_cons_succ, List.setIfInBounds_toArray, List.set_cons_zero, List.set_cons_succ])
    refine anyT_one (i := 7) (by kernel_rfl) rfl (fun K hK => ?_)
    have gv17 := setCells_grown (W.heap.size) [.slice (some ⟨g15, 0, none⟩) n cap15, .int .i64 0, .int .i64 0, .slice none 0 0, .int .i64 0, .slice none 0 0, .int .i64 0, .slice p4 M c4, .int .i64 0, .slice none 0 0, .slice none 0 0, .slice none 0 0, .slice none 0 0] 0 wY16
    have v17 := Cells.setAll z16 [.slice (some ⟨g15, 0, none⟩) n cap15, .int .i64 0, .int .i64 0, .slice none 0 0, .int .i64 0, .slice none 0 0, .int .i64 0, .slice p4 M c4, .int .i64 0, .slice none 0 0, .slice none 0 0, .slice none 0 0, .slice none 0 0] rfl
    have gg17 : W.heap.size ≤ W.heap.size := (by assumption)
    have kE17 := setCells_below (W.heap.size) W.heap.size gg17 [.slice (some ⟨g15, 0, none⟩) n cap15, .int .i64 0, .int .i64 0, .slice none 0 0, .int .i64 0, .slice none 0 0, .int .i64 0, .slice p4 M c4, .int .i64 0, .slice none 0 0, .slice none 0 0, .slice none 0 0, .slice none 0 0] wY16 kwY16 kwY16.size
    have rE17 := rowAt_grown r16 gv17 nr15
    have lE17 := Nat.lt_of_lt_of_le hl16 gv17.size
    refine wp_store_mid 32 _ _ rfl (W.heap.size) 0 #[.slice (some ⟨g15, 0, none⟩) n cap15, .int .i64 0, .int .i64 0, .slice none 0 0, .int .i64 0, .slice none 0 0, .int .i64 0, .slice p4 M c4, .int .i64 0, .slice none 0 0, .slice none 0 0, .slice none 0 0, .slice none 0 0] rfl rfl z16.there (sizeWorld _ _ _ _ _ _ _ _ _ _ _ _ _) (all_oneCell_toArray (by simp [Value.oneCell'])) ?_
    refine hK.out _ _ (kT.on kE17) (fun _ => trivial) ?_
    clear hK K
    refine anyT_done (by kernel_rfl) ?_ _
    refine NoPanic.normal ?_
    exact TL _ _ _ _ _ kE17 v17 gg17 ⟨owns_mono rE17 gW15, fun k hk => by cases hk; exact lE17⟩
set_option maxHeartbeats 16000000 in
theorem specWN_yes (p q : Option Addr) (n c m d M : Nat) (xs Y : List Int) (KR : Bool) (w : World) (hn : n ≤ 1048576) (hx : xs.length = n) (h0 : BytesIn w p n xs) (RN : ∀ X, Below w.heap.size w X → Calls Tryz.prog 18 #[.slice q m d] X fun z w' => ∃ p4 c4, z = .returned (.tuple #[.agg #[.slice p4 M c4, .int .i64 0, .slice none 0 0, .slice none 0 0], .bool KR]) ∧ Own 5 w' X.heap.size w'.heap.size (.slice p4 M c4) M Y ∧ Below X.heap.size X w') (WO : ∀ X p1 p4 c1 c4, BytesIn X p4 M Y → Calls Tryz.prog 20 #[.agg #[.slice p1 n c1, .int .i64 0, .int .i64 0, .slice none 0 0, .int .i64 0, .slice none 0 0, .int .i64 0, .slice p4 M c4, .int .i64 0, .slice none 0 0, .slice none 0 0, .slice none 0 0, .slice none 0 0]] X fun e w' => e = .returned (.bool true) ∧ Below X.heap.size X w') : Calls Tryz.prog 5 #[.slice p n c, .slice q m d] w fun z w' => ∃ p1 c1 p4 c4, z = .returned (.tuple #[.agg #[.slice p1 n c1, .int .i64 0, .int .i64 0, .slice none 0 0, .int .i64 0, .slice none 0 0, .int .i64 0, .slice p4 M c4, .int .i64 0, .slice none 0 0, .slice none 0 0, .slice none 0 0, .slice none 0 0], .bool true]) ∧ Own 5 w' w.heap.size w'.heap.size (.slice p1 n c1) n xs ∧ Own 5 w' w.heap.size w'.heap.size (.slice p4 M c4) M Y ∧ Below w.heap.size w w' := by
  obtain ⟨i0', hi, hz0, hz1, hz2⟩ := info_parts infoByte
  have bW := buildWN
  have bZ := buildZN
  go_enter Tryz.func5, Tryz.ntmps5
  go_wp2_with (fail)
  obtain ⟨W0, hW0⟩ : ∃ W0, w.alloc (.cells #[.slice none 0 0, .int .i64 0, .int .i64 0, .slice none 0 0, .int .i64 0, .slice none 0 0, .int .i64 0, .slice none 0 0, .int .i64 0, .slice none 0 0, .slice none 0 0, .slice none 0 0, .slice none 0 0] 32) = W0 := ⟨_, rfl⟩
  have Z0 : Cells W0 w.heap.size #[.slice none 0 0, .int .i64 0, .int .i64 0, .slice none 0 0, .int .i64 0, .slice none 0 0, .int .i64 0, .slice none 0 0, .int .i64 0, .slice none 0 0, .slice none 0 0, .slice none 0 0, .slice none 0 0] := by rw [← hW0]; exact Cells.made _ _ _
  have k0 : Below w.heap.size w W0 := by rw [← hW0]; exact made_below _ _ (Below.refl _ _)
  have sW0 : w.heap.size < W0.heap.size := Z0.1
  rw [hW0]
  clear hW0
  refine (RN _ k0).mono ?_
  rintro z w2 ⟨p4, c4, rfl, o4, b2⟩
  have Z2 := Z0.on b2
  have k2 := below_on k0 b2
  have s2 := b2.size
  clear RN
  go_wp2_with (fail)
  rename_i KK hKK
  obtain ⟨W1, hW1⟩ : ∃ W1, w2.alloc (.cells #[.slice p4 M c4, .int .i64 0, .slice none 0 0, .slice none 0 0] 28) = W1 := ⟨_, rfl⟩
  have CR : Cells W1 w2.heap.size #[.slice p4 M c4, .int .i64 0, .slice none 0 0, .slice none 0 0] := by rw [← hW1]; exact Cells.made _ _ _
  have b3 : Below w2.heap.size w2 W1 := by rw [← hW1]; exact made_below _ _ (Below.refl _ _)
  rw [hW1]
  clear hW1
  have Z3 := Z2.on b3
  have k3 := below_on k2 b3
  have o3 := o4.on b3
  have s3 := b3.size
  refine wp_region_noPanic ?_
  refine wp_region_T 99 (fun X => Cells X w2.heap.size #[.slice p4 M c4, .int .i64 0, .slice none 0 0, .slice none 0 0]) (fun _ => True) (by kernel_rfl) ?_
  have i0 := in_below h0 k3.drew
  have kT := CR.on (Below.refl _ _).drew
  have ZW := Z3.on (Below.refl _ _).drew
  have oW := o3.on (Below.refl _ _).drew
  have kw := k3.drew
  have sW : w2.heap.size ≤ W1.drew.heap.size := s3
  clear CR Z0 Z2 Z3 k0 k2 k3 o3 o4 b2 b3 s3
  generalize W1.drew = W at i0 kT ZW oW kw sW ⊢
  have kW : Below W.heap.size W W := Below.refl _ _
  have TL : ∀ (X : World) (G : Nat) (B14 : Value) (p1 : Option Addr) (c1 : Nat), Below W.heap.size W X → Cells X G #[.slice p1 n c1, .int .i64 0, .int .i64 0, .slice none 0 0, .int .i64 0, .slice none 0 0, .int .i64 0, .slice p4 M c4, .int .i64 0, .slice none 0 0, .slice none 0 0, .slice none 0 0, .slice none 0 0] → W.heap.size ≤ G → Own 5 X W.heap.size X.heap.size (.slice p1 n c1) n xs → KK { tmps := #[.slice p n c, .slice q m d, undef, undef, .pointer (some ⟨w.heap.size, 0, none⟩), .bool false, .pointer (some ⟨w2.heap.size, 0, none⟩), .bool KR, .pointer (some ⟨G, 0, none⟩), .tuple #[.agg #[.slice p4 M c4, .int .i64 0, .slice none 0 0, .slice none 0 0], .bool KR], .slice q m d, .tuple #[.agg #[.slice p4 M c4, .int .i64 0, .slice none 0 0, .slice none 0 0], .bool KR], .agg #[.slice p4 M c4, .int .i64 0, .slice none 0 0, .slice none 0 0], .bool KR, B14, .slice p n c, .slice p1 n c1, .agg #[.slice none 0 0, .int .i64 0, .slice none 0 0, .int .i64 0], .agg #[.slice p4 M c4, .int .i64 0, .slice none 0 0, .slice none 0 0], .agg #[.slice p1 n c1, .int .i64 0, .int .i64 0, .slice none 0 0, .int .i64 0, .slice none 0 0, .int .i64 0, .slice p4 M c4, .int .i64 0, .slice none 0 0, .slice none 0 0, .slice none 0 0, .slice none 0 0], undef, undef, undef, undef, undef], defers := [] } X := by
    intro X G B14 p1 c1 kX CG hG o1
    refine hKK _ _ ?_
    have Z3 := ZW.on kX
    have k3 := below_on kw kX
    have o4 := oW.on kX
    have s3 := kX.size
    have ok := WO
    have l0 := (CG.2 0).1
    have l1 := (CG.2 1).1
    have l2 := (CG.2 2).1
    have l3 := (CG.2 3).1
    have l4 := (CG.2 4).1
    have l5 := (CG.2 5).1
    have l6 := (CG.2 6).1
    have l7 := (CG.2 7).1
    have l8 := (CG.2 8).1
    have l9 := (CG.2 9).1
    have l10 := (CG.2 10).1
    have l11 := (CG.2 11).1
    have l12 := (CG.2 12).1
    clear hKK i0 kT ZW oW kW kX ok
    go_wp2_with (fail)
    refine (WO _ p1 p4 c1 c4 o4.bytes).mono ?_
    rintro z w4 ⟨rfl, b4⟩
    have Z4 := Z3.on b4
    have k4 := below_on k3 b4
    have C4 := CG.on b4
    have sz : w.heap.size < w4.heap.size := Z4.1
    clear l0 l1 l2 l3 l4 l5 l6 l7 l8 l9 l10 l11 l12
    have c_0 := (C4.2 0).1
    have c_1 := (C4.2 1).1
    have c_2 := (C4.2 2).1
    have c_3 := (C4.2 3).1
    have c_4 := (C4.2 4).1
    have c_5 := (C4.2 5).1
    have c_6 := (C4.2 6).1
    have c_7 := (C4.2 7).1
    have c_8 := (C4.2 8).1
    have c_9 := (C4.2 9).1
    have c_10 := (C4.2 10).1
    have c_11 := (C4.2 11).1
    have c_12 := (C4.2 12).1
    have m0 : (w4).cell? ⟨w.heap.size, 0, none⟩ = some (.slice none 0 0) := (Z4.2 0).1
    have f0 := (Z4.2 0).2
    have D0 : Cells (w4.setCell ⟨w.heap.size, 0, none⟩ (.slice p1 n c1)) (w.heap.size) #[.slice p1 n c1, .int .i64 0, .int .i64 0, .slice none 0 0, .int .i64 0, .slice none 0 0, .int .i64 0, .slice none 0 0, .int .i64 0, .slice none 0 0, .slice none 0 0, .slice none 0 0, .slice none 0 0] := Z4.set 0 (by simp) (.slice p1 n c1)
    have m1 : ((w4.setCell ⟨w.heap.size, 0, none⟩ (.slice p1 n c1))).cell? ⟨w.heap.size, 1, none⟩ = some (.int .i64 0) := (D0.2 1).1
    have f1 := (D0.2 1).2
    have D1 : Cells ((w4.setCell ⟨w.heap.size, 0, none⟩ (.slice p1 n c1)).setCell ⟨w.heap.size, 1, none⟩ (.int .i64 0)) (w.heap.size) #[.slice p1 n c1, .int .i64 0, .int .i64 0, .slice none 0 0, .int .i64 0, .slice none 0 0, .int .i64 0, .slice none 0 0, .int .i64 0, .slice none 0 0, .slice none 0 0, .slice none 0 0, .slice none 0 0] := D0.set 1 (by simp) (.int .i64 0)
    clear D0
    have m2 : (((w4.setCell ⟨w.heap.size, 0, none⟩ (.slice p1 n c1)).setCell ⟨w.heap.size, 1, none⟩ (.int .i64 0))).cell? ⟨w.heap.size, 2, none⟩ = some (.int .i64 0) := (D1.2 2).1
    have f2 := (D1.2 2).2
    have D2 : Cells (((w4.setCell ⟨w.heap.size, 0, none⟩ (.slice p1 n c1)).setCell ⟨w.heap.size, 1, none⟩ (.int .i64 0)).setCell ⟨w.heap.size, 2, none⟩ (.int .i64 0)) (w.heap.size) #[.slice p1 n c1, .int .i64 0, .int .i64 0, .slice none 0 0, .int .i64 0, .slice none 0 0, .int .i64 0, .slice none 0 0, .int .i64 0, .slice none 0 0, .slice none 0 0, .slice none 0 0, .slice none 0 0] := D1.set 2 (by simp) (.int .i64 0)
    clear D1
    have m3 : ((((w4.setCell ⟨w.heap.size, 0, none⟩ (.slice p1 n c1)).setCell ⟨w.heap.size, 1, none⟩ (.int .i64 0)).setCell ⟨w.heap.size, 2, none⟩ (.int .i64 0))).cell? ⟨w.heap.size, 3, none⟩ = some (.slice none 0 0) := (D2.2 3).1
    have f3 := (D2.2 3).2
    have D3 : Cells ((((w4.setCell ⟨w.heap.size, 0, none⟩ (.slice p1 n c1)).setCell ⟨w.heap.size, 1, none⟩ (.int .i64 0)).setCell ⟨w.heap.size, 2, none⟩ (.int .i64 0)).setCell ⟨w.heap.size, 3, none⟩ (.slice none 0 0)) (w.heap.size) #[.slice p1 n c1, .int .i64 0, .int .i64 0, .slice none 0 0, .int .i64 0, .slice none 0 0, .int .i64 0, .slice none 0 0, .int .i64 0, .slice none 0 0, .slice none 0 0, .slice none 0 0, .slice none 0 0] := D2.set 3 (by simp) (.slice none 0 0)
    clear D2
    have m4 : (((((w4.setCell ⟨w.heap.size, 0, none⟩ (.slice p1 n c1)).setCell ⟨w.heap.size, 1, none⟩ (.int .i64 0)).setCell ⟨w.heap.size, 2, none⟩ (.int .i64 0)).setCell ⟨w.heap.size, 3, none⟩ (.slice none 0 0))).cell? ⟨w.heap.size, 4, none⟩ = some (.int .i64 0) := (D3.2 4).1
    have f4 := (D3.2 4).2
    have D4 : Cells (((((w4.setCell ⟨w.heap.size, 0, none⟩ (.slice p1 n c1)).setCell ⟨w.heap.size, 1, none⟩ (.int .i64 0)).setCell ⟨w.heap.size, 2, none⟩ (.int .i64 0)).setCell ⟨w.heap.size, 3, none⟩ (.slice none 0 0)).setCell ⟨w.heap.size, 4, none⟩ (.int .i64 0)) (w.heap.size) #[.slice p1 n c1, .int .i64 0, .int .i64 0, .slice none 0 0, .int .i64 0, .slice none 0 0, .int .i64 0, .slice none 0 0, .int .i64 0, .slice none 0 0, .slice none 0 0, .slice none 0 0, .slice none 0 0] := D3.set 4 (by simp) (.int .i64 0)
    clear D3
    have m5 : ((((((w4.setCell ⟨w.heap.size, 0, none⟩ (.slice p1 n c1)).setCell ⟨w.heap.size, 1, none⟩ (.int .i64 0)).setCell ⟨w.heap.size, 2, none⟩ (.int .i64 0)).setCell ⟨w.heap.size, 3, none⟩ (.slice none 0 0)).setCell ⟨w.heap.size, 4, none⟩ (.int .i64 0))).cell? ⟨w.heap.size, 5, none⟩ = some (.slice none 0 0) := (D4.2 5).1
    have f5 := (D4.2 5).2
    have D5 : Cells ((((((w4.setCell ⟨w.heap.size, 0, none⟩ (.slice p1 n c1)).setCell ⟨w.heap.size, 1, none⟩ (.int .i64 0)).setCell ⟨w.heap.size, 2, none⟩ (.int .i64 0)).setCell ⟨w.heap.size, 3, none⟩ (.slice none 0 0)).setCell ⟨w.heap.size, 4, none⟩ (.int .i64 0)).setCell ⟨w.heap.size, 5, none⟩ (.slice none 0 0)) (w.heap.size) #[.slice p1 n c1, .int .i64 0, .int .i64 0, .slice none 0 0, .int .i64 0, .slice none 0 0, .int .i64 0, .slice none 0 0, .int .i64 0, .slice none 0 0, .slice none 0 0, .slice none 0 0, .slice none 0 0] := D4.set 5 (by simp) (.slice none 0 0)
    clear D4
    have m6 : (((((((w4.setCell ⟨w.heap.size, 0, none⟩ (.slice p1 n c1)).setCell ⟨w.heap.size, 1, none⟩ (.int .i64 0)).setCell ⟨w.heap.size, 2, none⟩ (.int .i64 0)).setCell ⟨w.heap.size, 3, none⟩ (.slice none 0 0)).setCell ⟨w.heap.size, 4, none⟩ (.int .i64 0)).setCell ⟨w.heap.size, 5, none⟩ (.slice none 0 0))).cell? ⟨w.heap.size, 6, none⟩ = some (.int .i64 0) := (D5.2 6).1
    have f6 := (D5.2 6).2
    have D6 : Cells (((((((w4.setCell ⟨w.heap.size, 0, none⟩ (.slice p1 n c1)).setCell ⟨w.heap.size, 1, none⟩ (.int .i64 0)).setCell ⟨w.heap.size, 2, none⟩ (.int .i64 0)).setCell ⟨w.heap.size, 3, none⟩ (.slice none 0 0)).setCell ⟨w.heap.size, 4, none⟩ (.int .i64 0)).setCell ⟨w.heap.size, 5, none⟩ (.slice none 0 0)).setCell ⟨w.heap.size, 6, none⟩ (.int .i64 0)) (w.heap.size) #[.slice p1 n c1, .int .i64 0, .int .i64 0, .slice none 0 0, .int .i64 0, .slice none 0 0, .int .i64 0, .slice none 0 0, .int .i64 0, .slice none 0 0, .slice none 0 0, .slice none 0 0, .slice none 0 0] := D5.set 6 (by simp) (.int .i64 0)
    clear D5
    have m7 : ((((((((w4.setCell ⟨w.heap.size, 0, none⟩ (.slice p1 n c1)).setCell ⟨w.heap.size, 1, none⟩ (.int .i64 0)).setCell ⟨w.heap.size, 2, none⟩ (.int .i64 0)).setCell ⟨w.heap.size, 3, none⟩ (.slice none 0 0)).setCell ⟨w.heap.size, 4, none⟩ (.int .i64 0)).setCell ⟨w.heap.size, 5, none⟩ (.slice none 0 0)).setCell ⟨w.heap.size, 6, none⟩ (.int .i64 0))).cell? ⟨w.heap.size, 7, none⟩ = some (.slice none 0 0) := (D6.2 7).1
    have f7 := (D6.2 7).2
    have D7 : Cells ((((((((w4.setCell ⟨w.heap.size, 0, none⟩ (.slice p1 n c1)).setCell ⟨w.heap.size, 1, none⟩ (.int .i64 0)).setCell ⟨w.heap.size, 2, none⟩ (.int .i64 0)).setCell ⟨w.heap.size, 3, none⟩ (.slice none 0 0)).setCell ⟨w.heap.size, 4, none⟩ (.int .i64 0)).setCell ⟨w.heap.size, 5, none⟩ (.slice none 0 0)).setCell ⟨w.heap.size, 6, none⟩ (.int .i64 0)).setCell ⟨w.heap.size, 7, none⟩ (.slice p4 M c4)) (w.heap.size) #[.slice p1 n c1, .int .i64 0, .int .i64 0, .slice none 0 0, .int .i64 0, .slice none 0 0, .int .i64 0, .slice p4 M c4, .int .i64 0, .slice none 0 0, .slice none 0 0, .slice none 0 0, .slice none 0 0] := D6.set 7 (by simp) (.slice p4 M c4)
    clear D6
    have m8 : (((((((((w4.setCell ⟨w.heap.size, 0, none⟩ (.slice p1 n c1)).setCell ⟨w.heap.size, 1, none⟩ (.int .i64 0)).setCell ⟨w.heap.size, 2, none⟩ (.int .i64 0)).setCell ⟨w.heap.size, 3, none⟩ (.slice none 0 0)).setCell ⟨w.heap.size, 4, none⟩ (.int .i64 0)).setCell ⟨w.heap.size, 5, none⟩ (.slice none 0 0)).setCell ⟨w.heap.size, 6, none⟩ (.int .i64 0)).setCell ⟨w.heap.size, 7, none⟩ (.slice p4 M c4))).cell? ⟨w.heap.size, 8, none⟩ = some (.int .i64 0) := (D7.2 8).1
    have f8 := (D7.2 8).2
    have D8 : Cells (((((((((w4.setCell ⟨w.heap.size, 0, none⟩ (.slice p1 n c1)).setCell ⟨w.heap.size, 1, none⟩ (.int .i64 0)).setCell ⟨w.heap.size, 2, none⟩ (.int .i64 0)).setCell ⟨w.heap.size, 3, none⟩ (.slice none 0 0)).setCell ⟨w.heap.size, 4, none⟩ (.int .i64 0)).setCell ⟨w.heap.size, 5, none⟩ (.slice none 0 0)).setCell ⟨w.heap.size, 6, none⟩ (.int .i64 0)).setCell ⟨w.heap.size, 7, none⟩ (.slice p4 M c4)).setCell ⟨w.heap.size, 8, none⟩ (.int .i64 0)) (w.heap.size) #[.slice p1 n c1, .int .i64 0, .int .i64 0, .slice none 0 0, .int .i64 0, .slice none 0 0, .int .i64 0, .slice p4 M c4, .int .i64 0, .slice none 0 0, .slice none 0 0, .slice none 0 0, .slice none 0 0] := D7.set 8 (by simp) (.int .i64 0)
    clear D7
    have m9 : ((((((((((w4.setCell ⟨w.heap.size, 0, none⟩ (.slice p1 n c1)).setCell ⟨w.heap.size, 1, none⟩ (.int .i64 0)).setCell ⟨w.heap.size, 2, none⟩ (.int .i64 0)).setCell ⟨w.heap.size, 3, none⟩ (.slice none 0 0)).setCell ⟨w.heap.size, 4, none⟩ (.int .i64 0)).setCell ⟨w.heap.size, 5, none⟩ (.slice none 0 0)).setCell ⟨w.heap.size, 6, none⟩ (.int .i64 0)).setCell ⟨w.heap.size, 7, none⟩ (.slice p4 M c4)).setCell ⟨w.heap.size, 8, none⟩ (.int .i64 0))).cell? ⟨w.heap.size, 9, none⟩ = some (.slice none 0 0) := (D8.2 9).1
    have f9 := (D8.2 9).2
    have D9 : Cells ((((((((((w4.setCell ⟨w.heap.size, 0, none⟩ (.slice p1 n c1)).setCell ⟨w.heap.size, 1, none⟩ (.int .i64 0)).setCell ⟨w.heap.size, 2, none⟩ (.int .i64 0)).setCell ⟨w.heap.size, 3, none⟩ (.slice none 0 0)).setCell ⟨w.heap.size, 4, none⟩ (.int .i64 0)).setCell ⟨w.heap.size, 5, none⟩ (.slice none 0 0)).setCell ⟨w.heap.size, 6, none⟩ (.int .i64 0)).setCell ⟨w.heap.size, 7, none⟩ (.slice p4 M c4)).setCell ⟨w.heap.size, 8, none⟩ (.int .i64 0)).setCell ⟨w.heap.size, 9, none⟩ (.slice none 0 0)) (w.heap.size) #[.slice p1 n c1, .int .i64 0, .int .i64 0, .slice none 0 0, .int .i64 0, .slice none 0 0, .int .i64 0, .slice p4 M c4, .int .i64 0, .slice none 0 0, .slice none 0 0, .slice none 0 0, .slice none 0 0] := D8.set 9 (by simp) (.slice none 0 0)
    clear D8
    have m10 : (((((((((((w4.setCell ⟨w.heap.size, 0, none⟩ (.slice p1 n c1)).setCell ⟨w.heap.size, 1, none⟩ (.int .i64 0)).setCell ⟨w.heap.size, 2, none⟩ (.int .i64 0)).setCell ⟨w.heap.size, 3, none⟩ (.slice none 0 0)).setCell ⟨w.heap.size, 4, none⟩ (.int .i64 0)).setCell ⟨w.heap.size, 5, none⟩ (.slice none 0 0)).setCell ⟨w.heap.size, 6, none⟩ (.int .i64 0)).setCell ⟨w.heap.size, 7, none⟩ (.slice p4 M c4)).setCell ⟨w.heap.size, 8, none⟩ (.int .i64 0)).setCell ⟨w.heap.size, 9, none⟩ (.slice none 0 0))).cell? ⟨w.heap.size, 10, none⟩ = some (.slice none 0 0) := (D9.2 10).1
    have f10 := (D9.2 10).2
    have D10 : Cells (((((((((((w4.setCell ⟨w.heap.size, 0, none⟩ (.slice p1 n c1)).setCell ⟨w.heap.size, 1, none⟩ (.int .i64 0)).setCell ⟨w.heap.size, 2, none⟩ (.int .i64 0)).setCell ⟨w.heap.size, 3, none⟩ (.slice none 0 0)).setCell ⟨w.heap.size, 4, none⟩ (.int .i64 0)).setCell ⟨w.heap.size, 5, none⟩ (.slice none 0 0)).setCell ⟨w.heap.size, 6, none⟩ (.int .i64 0)).setCell ⟨w.heap.size, 7, none⟩ (.slice p4 M c4)).setCell ⟨w.heap.size, 8, none⟩ (.int .i64 0)).setCell ⟨w.heap.size, 9, none⟩ (.slice none 0 0)).setCell ⟨w.heap.size, 10, none⟩ (.slice none 0 0)) (w.heap.size) #[.slice p1 n c1, .int .i64 0, .int .i64 0, .slice none 0 0, .int .i64 0, .slice none 0 0, .int .i64 0, .slice p4 M c4, .int .i64 0, .slice none 0 0, .slice none 0 0, .slice none 0 0, .slice none 0 0] := D9.set 10 (by simp) (.slice none 0 0)
    clear D9
    have m11 : ((((((((((((w4.setCell ⟨w.heap.size, 0, none⟩ (.slice p1 n c1)).setCell ⟨w.heap.size, 1, none⟩ (.int .i64 0)).setCell ⟨w.heap.size, 2, none⟩ (.int .i64 0)).setCell ⟨w.heap.size, 3, none⟩ (.slice none 0 0)).setCell ⟨w.heap.size, 4, none⟩ (.int .i64 0)).setCell ⟨w.heap.size, 5, none⟩ (.slice none 0 0)).setCell ⟨w.heap.size, 6, none⟩ (.int .i64 0)).setCell ⟨w.heap.size, 7, none⟩ (.slice p4 M c4)).setCell ⟨w.heap.size, 8, none⟩ (.int .i64 0)).setCell ⟨w.heap.size, 9, none⟩ (.slice none 0 0)).setCell ⟨w.heap.size, 10, none⟩ (.slice none 0 0))).cell? ⟨w.heap.size, 11, none⟩ = some (.slice none 0 0) := (D10.2 11).1
    have f11 := (D10.2 11).2
    have D11 : Cells ((((((((((((w4.setCell ⟨w.heap.size, 0, none⟩ (.slice p1 n c1)).setCell ⟨w.heap.size, 1, none⟩ (.int .i64 0)).setCell ⟨w.heap.size, 2, none⟩ (.int .i64 0)).setCell ⟨w.heap.size, 3, none⟩ (.slice none 0 0)).setCell ⟨w.heap.size, 4, none⟩ (.int .i64 0)).setCell ⟨w.heap.size, 5, none⟩ (.slice none 0 0)).setCell ⟨w.heap.size, 6, none⟩ (.int .i64 0)).setCell ⟨w.heap.size, 7, none⟩ (.slice p4 M c4)).setCell ⟨w.heap.size, 8, none⟩ (.int .i64 0)).setCell ⟨w.heap.size, 9, none⟩ (.slice none 0 0)).setCell ⟨w.heap.size, 10, none⟩ (.slice none 0 0)).setCell ⟨w.heap.size, 11, none⟩ (.slice none 0 0)) (w.heap.size) #[.slice p1 n c1, .int .i64 0, .int .i64 0, .slice none 0 0, .int .i64 0, .slice none 0 0, .int .i64 0, .slice p4 M c4, .int .i64 0, .slice none 0 0, .slice none 0 0, .slice none 0 0, .slice none 0 0] := D10.set 11 (by simp) (.slice none 0 0)
    clear D10
    have m12 : (((((((((((((w4.setCell ⟨w.heap.size, 0, none⟩ (.slice p1 n c1)).setCell ⟨w.heap.size, 1, none⟩ (.int .i64 0)).setCell ⟨w.heap.size, 2, none⟩ (.int .i64 0)).setCell ⟨w.heap.size, 3, none⟩ (.slice none 0 0)).setCell ⟨w.heap.size, 4, none⟩ (.int .i64 0)).setCell ⟨w.heap.size, 5, none⟩ (.slice none 0 0)).setCell ⟨w.heap.size, 6, none⟩ (.int .i64 0)).setCell ⟨w.heap.size, 7, none⟩ (.slice p4 M c4)).setCell ⟨w.heap.size, 8, none⟩ (.int .i64 0)).setCell ⟨w.heap.size, 9, none⟩ (.slice none 0 0)).setCell ⟨w.heap.size, 10, none⟩ (.slice none 0 0)).setCell ⟨w.heap.size, 11, none⟩ (.slice none 0 0))).cell? ⟨w.heap.size, 12, none⟩ = some (.slice none 0 0) := (D11.2 12).1
    have f12 := (D11.2 12).2
    have D12 : Cells (((((((((((((w4.setCell ⟨w.heap.size, 0, none⟩ (.slice p1 n c1)).setCell ⟨w.heap.size, 1, none⟩ (.int .i64 0)).setCell ⟨w.heap.size, 2, none⟩ (.int .i64 0)).setCell ⟨w.heap.size, 3, none⟩ (.slice none 0 0)).setCell ⟨w.heap.size, 4, none⟩ (.int .i64 0)).setCell ⟨w.heap.size, 5, none⟩ (.slice none 0 0)).setCell ⟨w.heap.size, 6, none⟩ (.int .i64 0)).setCell ⟨w.heap.size, 7, none⟩ (.slice p4 M c4)).setCell ⟨w.heap.size, 8, none⟩ (.int .i64 0)).setCell ⟨w.heap.size, 9, none⟩ (.slice none 0 0)).setCell ⟨w.heap.size, 10, none⟩ (.slice none 0 0)).setCell ⟨w.heap.size, 11, none⟩ (.slice none 0 0)).setCell ⟨w.heap.size, 12, none⟩ (.slice none 0 0)) (w.heap.size) #[.slice p1 n c1, .int .i64 0, .int .i64 0, .slice none 0 0, .int .i64 0, .slice none 0 0, .int .i64 0, .slice p4 M c4, .int .i64 0, .slice none 0 0, .slice none 0 0, .slice none 0 0, .slice none 0 0] := D11.set 12 (by simp) (.slice none 0 0)
    clear D11
    clear D12
    have k5 : Below w.heap.size w (((((((((((((w4.setCell ⟨w.heap.size, 0, none⟩ (.slice p1 n c1)).setCell ⟨w.heap.size, 1, none⟩ (.int .i64 0)).setCell ⟨w.heap.size, 2, none⟩ (.int .i64 0)).setCell ⟨w.heap.size, 3, none⟩ (.slice none 0 0)).setCell ⟨w.heap.size, 4, none⟩ (.int .i64 0)).setCell ⟨w.heap.size, 5, none⟩ (.slice none 0 0)).setCell ⟨w.heap.size, 6, none⟩ (.int .i64 0)).setCell ⟨w.heap.size, 7, none⟩ (.slice p4 M c4)).setCell ⟨w.heap.size, 8, none⟩ (.int .i64 0)).setCell ⟨w.heap.size, 9, none⟩ (.slice none 0 0)).setCell ⟨w.heap.size, 10, none⟩ (.slice none 0 0)).setCell ⟨w.heap.size, 11, none⟩ (.slice none 0 0)).setCell ⟨w.heap.size, 12, none⟩ (.slice none 0 0)) := ((((((((((((((((((((((((((k4).setCell (show w.heap.size ≤ w.heap.size by omega) _)).setCell (show w.heap.size ≤ w.heap.size by omega) _)).setCell (show w.heap.size ≤ w.heap.size by omega) _)).setCell (show w.heap.size ≤ w.heap.size by omega) _)).setCell (show w.heap.size ≤ w.heap.size by omega) _)).setCell (show w.heap.size ≤ w.heap.size by omega) _)).setCell (show w.heap.size ≤ w.heap.size by omega) _)).setCell (show w.heap.size ≤ w.heap.size by omega) _)).setCell (show w.heap.size ≤ w.heap.size by omega) _)).setCell (show w.heap.size ≤ w.heap.size by omega) _)).setCell (show w.heap.size ≤ w.heap.size by omega) _)).setCell (show w.heap.size ≤ w.heap.size by omega) _)).setCell (show w.heap.size ≤ w.heap.size by omega) _)
    have gE : World.grownBy w4 (((((((((((((w4.setCell ⟨w.heap.size, 0, none⟩ (.slice p1 n c1)).setCell ⟨w.heap.size, 1, none⟩ (.int .i64 0)).setCell ⟨w.heap.size, 2, none⟩ (.int .i64 0)).setCell ⟨w.heap.size, 3, none⟩ (.slice none 0 0)).setCell ⟨w.heap.size, 4, none⟩ (.int .i64 0)).setCell ⟨w.heap.size, 5, none⟩ (.slice none 0 0)).setCell ⟨w.heap.size, 6, none⟩ (.int .i64 0)).setCell ⟨w.heap.size, 7, none⟩ (.slice p4 M c4)).setCell ⟨w.heap.size, 8, none⟩ (.int .i64 0)).setCell ⟨w.heap.size, 9, none⟩ (.slice none 0 0)).setCell ⟨w.heap.size, 10, none⟩ (.slice none 0 0)).setCell ⟨w.heap.size, 11, none⟩ (.slice none 0 0)).setCell ⟨w.heap.size, 12, none⟩ (.slice none 0 0)) (some w.heap.size) := setCells_grown w.heap.size [.slice p1 n c1, .int .i64 0, .int .i64 0, .slice none 0 0, .int .i64 0, .slice none 0 0, .int .i64 0, .slice p4 M c4, .int .i64 0, .slice none 0 0, .slice none 0 0, .slice none 0 0, .slice none 0 0] 0 w4
    have sE := gE.size
    have o1' := Own.past_row (o1.on b4) gE (Or.inl (by omega))
    have o4' := Own.past_row (o4.on b4) gE (Or.inl (by omega))
    have s4 := b4.size
    have zE : Cells (((((((((((((w4.setCell ⟨w.heap.size, 0, none⟩ (.slice p1 n c1)).setCell ⟨w.heap.size, 1, none⟩ (.int .i64 0)).setCell ⟨w.heap.size, 2, none⟩ (.int .i64 0)).setCell ⟨w.heap.size, 3, none⟩ (.slice none 0 0)).setCell ⟨w.heap.size, 4, none⟩ (.int .i64 0)).setCell ⟨w.heap.size, 5, none⟩ (.slice none 0 0)).setCell ⟨w.heap.size, 6, none⟩ (.int .i64 0)).setCell ⟨w.heap.size, 7, none⟩ (.slice p4 M c4)).setCell ⟨w.heap.size, 8, none⟩ (.int .i64 0)).setCell ⟨w.heap.size, 9, none⟩ (.slice none 0 0)).setCell ⟨w.heap.size, 10, none⟩ (.slice none 0 0)).setCell ⟨w.heap.size, 11, none⟩ (.slice none 0 0)).setCell ⟨w.heap.size, 12, none⟩ (.slice none 0 0)) w.heap.size #[.slice p1 n c1, .int .i64 0, .int .i64 0, .slice none 0 0, .int .i64 0, .slice none 0 0, .int .i64 0, .slice p4 M c4, .int .i64 0, .slice none 0 0, .slice none 0 0, .slice none 0 0, .slice none 0 0] := Cells.setAll Z4 [.slice p1 n c1, .int .i64 0, .int .i64 0, .slice none 0 0, .int .i64 0, .slice none 0 0, .int .i64 0, .slice p4 M c4, .int .i64 0, .slice none 0 0, .slice none 0 0, .slice none 0 0, .slice none 0 0] rfl
    have hR := run_loadVar_mid (P := Tryz.prog) _ w.heap.size 0 32 [.slice p1 n c1, .int .i64 0, .int .i64 0, .slice none 0 0, .int .i64 0, .slice none 0 0, .int .i64 0, .slice p4 M c4, .int .i64 0, .slice none 0 0, .slice none 0 0, .slice none 0 0, .slice none 0 0] _ (Cells.range zE) Tryz.underlying32 rfl (sizeWorld _ _ _ _ _ _ _ _ _ _ _ _ _)
    clear zE gE
    go_wp2_with (fail)
    (try simp only [Exit.inBlock, Exit.then])
    refine bodyPost_ret (v := .tuple #[.agg #[.slice p1 n c1, .int .i64 0, .int .i64 0, .slice none 0 0, .int .i64 0, .slice none 0 0, .int .i64 0, .slice p4 M c4, .int .i64 0, .slice none 0 0, .slice none 0 0, .slice none 0 0, .slice none 0 0], .bool true]) ?_ rfl ⟨p1, c1, p4, c4, rfl, Own.widen o1' (by omega) (by omega), Own.widen o4' (by omega) (by omega), k5⟩
    simp [results, asAddr, hR]
  clear hKK WO
  refine anyT_takeT (i := 1) (v := .slice p n c) rfl (by kernel_rfl) (by kernel_rfl) (by kernel_rfl) (by kernel_rfl) (fun _ _ _ h => h) (Or.inl ⟨by rfl, fun X hSw => by ((try dsimp only at hSw); go_simp)⟩) kT (fun _ => trivial) ?_
  (try simp only [Act.put, List.getElem_toArray, List.getElem_cons_zero, List.getElem_cons_succ, List.setIfInBounds_toArray, List.set_cons_zero, List.set_cons_succ])
  refine anyT_takeT (i := 4) (v := .agg #[.slice p4 M c4, .int .i64 0, .slice none 0 0, .slice none 0 0]) rfl (by kernel_rfl) (by kernel_rfl) (by kernel_rfl) (by kernel_rfl) (fun _ _ _ h => h) (Or.inl ⟨by rfl, fun X hSw => by (have q0 := (hSw.2 0).1; have q1 := (hSw.2 1).1; have q2 := (hSw.2 2).1; have q3 := (hSw.2 3).1; go_simp)⟩) kT (fun _ => trivial) ?_
  (try simp only [Act.put, List.getElem_toArray, List.getElem_cons_zero, List.getElem_cons_succ, List.setIfInBounds_toArray, List.set_cons_zero, List.set_cons_succ])
  refine anyT_two (i := 0) (j := 6) (by kernel_rfl) rfl rfl (fun K hK => ?_) (fun K hK => ?_)
  · go_simp
    have e18 := emp_made W W.heap.size rfl
    have b18 : Below W.heap.size W (W.alloc (.cells #[] 5)) := (Below.refl _ _).alloc (Nat.le_refl _) _
    have kwY18 := below_on kW b18
    have s18 := kW.size
    refine hK.out _ _ (kT.on kwY18) (fun _ => trivial) ?_
    clear hK K
    generalize W.alloc (.cells #[] 5) = wY18 at *
    clear b18
    refine anyT_two (i := 2) (j := 6) (by kernel_rfl) rfl rfl (fun K hK => ?_) (fun K hK => ?_)
    · refine step_fresh_all hi hz0 hz1 hz2 (.tmp 14) (.tmp 15) 22 Tryz.underlying22 rfl rfl rfl rfl e18 (in_below i0 kwY18) hx (by omega) kwY18 s18 ?_
      intro g19 cap19 wY19 r19 hg19 hl19 hs19 gr19 kwY19
      have gW19 : W.heap.size ≤ g19 := by have q1 := s18; have q2 := kwY18.size; rcases hg19 with h | h <;> omega
      refine hK.out _ _ (kT.on kwY19) (fun _ => trivial) ?_
      clear hK K
      (try simp only [Act.put, List.getElem_toArray, List.getElem_cons_zero, List.getElem_cons_succ, List.setIfInBounds_toArray, List.set_cons_zero, List.set_cons_succ])
      refine anyT_two (i := 3) (j := 6) (by kernel_rfl) rfl rfl (fun K hK => ?_) (fun K hK => ?_)
      · go_simp
        refine (specPostNew_any _).mono ?_
        rintro e wY20 ⟨rfl, b20⟩
        have kwY20 := below_on kwY19 b20
        have r20 := rowAt_below r19 b20
        have hl20 := Nat.lt_of_lt_of_le hl19 b20.size
        go_wp2_with (fail)
        refine hK.out _ _ (kT.on kwY20) (fun _ => trivial) ?_
        clear hK K
        refine anyT_takeT (i := 5) (v := .agg #[.slice (some ⟨g19, 0, none⟩) n cap19, .int .i64 0, .int .i64 0, .slice none 0 0, .int .i64 0, .slice none 0 0, .int .i64 0, .slice p4 M c4, .int .i64 0, .slice none 0 0, .slice none 0 0, .slice none 0 0, .slice none 0 0]) rfl (by kernel_rfl) (by kernel_rfl) (by kernel_rfl) (by kernel_rfl) (fun _ _ _ h => h) (Or.inl ⟨by rfl, fun X hSw => by (go_simp)⟩) (kT.on kwY20) (fun _ => trivial) ?_
        (try simp only [Act.put, List.getElem_toArray, List.getElem_cons_zero, List.getElem_cons_succ, List.setIfInBounds_toArray, List.set_cons_zero, List.set_cons_succ])
        refine anyT_one (i := 6) (by kernel_rfl) rfl (fun K hK => ?_)
        go_simp
        have z21 := Cells.made wY20 #[.slice none 0 0, .int .i64 0, .int .i64 0, .slice none 0 0, .int .i64 0, .slice none 0 0, .int .i64 0, .slice none 0 0, .int .i64 0, .slice none 0 0, .slice none 0 0, .slice none 0 0, .slice none 0 0] 32
        have b21 : Below wY20.heap.size wY20 (wY20.alloc (.cells #[.slice none 0 0, .int .i64 0, .int .i64 0, .slice none 0 0, .int .i64 0, .slice none 0 0, .int .i64 0, .slice none 0 0, .int .i64 0, .slice none 0 0, .slice none 0 0, .slice none 0 0, .slice none 0 0] 32)) := (Below.refl _ _).alloc (Nat.le_refl _) _
        have kwY21 := below_on kwY20 b21
        have gG21 := kwY20.size
        have r21 := rowAt_below r20 b21
        have nr21 : g19 ≠ wY20.heap.size := Nat.ne_of_lt hl20
        have hl21 := Nat.lt_of_lt_of_le hl20 b21.size
        refine hK.out _ _ (kT.on kwY21) (fun _ => trivial) ?_
        clear hK K
        generalize wY20.alloc (.cells #[.slice none 0 0, .int .i64 0, .int .i64 0, .slice none 0 0, .int .i64 0, .slice none 0 0, .int .i64 0, .slice none 0 0, .int .i64 0, .slice none 0 0, .slice none 0 0, .slice none 0 0, .slice none 0 0] 32) = wY21 at *
        clear b21
        refine anyT_one (i := 7) (by kernel_rfl) rfl (fun K hK => ?_)
        have gv22 := setCells_grown (wY20.heap.size) [.slice (some ⟨g19, 0, none⟩) n cap19, .int .i64 0, .int .i64 0, .slice none 0 0, .int .i64 0, .slice none 0 0, .int .i64 0, .slice p4 M c4, .int .i64 0, .slice none 0 0, .slice none 0 0, .slice none 0 0, .slice none 0 0] 0 wY21
        have v22 := Cells.setAll z21 [.slice (some ⟨g19, 0, none⟩) n cap19, .int .i64 0, .int .i64 0, .slice none 0 0, .int .i64 0, .slice none 0 0, .int .i64 0, .slice p4 M c4, .int .i64 0, .slice none 0 0, .slice none 0 0, .slice none 0 0, .slice none 0 0] rfl
        have gg22 : W.heap.size ≤ wY20.heap.size := (by assumption)
        have kE22 := setCells_below (wY20.heap.size) W.heap.size gg22 [.slice (some ⟨g19, 0, none⟩) n cap19, .int .i64 0, .int .i64 0, .slice none 0 0, .int .i64 0, .slice none 0 0, .int .i64 0, .slice p4 M c4, .int .i64 0, .slice none 0 0, .slice none 0 0, .slice none 0 0, .slice none 0 0] wY21 kwY21 kwY21.size
        have rE22 := rowAt_grown r21 gv22 nr21
        have lE22 := Nat.lt_of_lt_of_le hl21 gv22.size
        refine wp_store_mid 32 _ _ rfl (wY20.heap.size) 0 #[.slice (some ⟨g19, 0, none⟩) n cap19, .int .i64 0, .int .i64 0, .slice none 0 0, .int .i64 0, .slice none 0 0, .int .i64 0, .slice p4 M c4, .int .i64 0, .slice none 0 0, .slice none 0 0, .slice none 0 0, .slice none 0 0] rfl rfl z21.there (sizeWorld _ _ _ _ _ _ _ _ _ _ _ _ _) (all_oneCell_toArray (by simp [Value.oneCell'])) ?_
        refine hK.out _ _ (kT.on kE22) (fun _ => trivial) ?_
        clear hK K
        refine anyT_done (by kernel_rfl) ?_ _
        refine NoPanic.normal ?_
        exact TL _ _ _ _ _ kE22 v22 gg22 ⟨owns_mono rE22 gW19, fun k hk => by cases hk; exact lE22⟩
      · go_simp
        have z23 := Cells.made wY19 #[.slice none 0 0, .int .i64 0, .int .i64 0, .slice none 0 0, .int .i64 0, .slice none 0 0, .int .i64 0, .slice none 0 0, .int .i64 0, .slice none 0 0, .slice none 0 0, .slice none 0 0, .slice none 0 0] 32
        have b23 : Below wY19.heap.size wY19 (wY19.alloc (.cells #[.slice none 0 0, .int .i64 0, .int .i64 0, .slice none 0 0, .int .i64 0, .slice none 0 0, .int .i64 0, .slice none 0 0, .int .i64 0, .slice none 0 0, .slice none 0 0, .slice none 0 0, .slice none 0 0] 32)) := (Below.refl _ _).alloc (Nat.le_refl _) _
        have kwY23 := below_on kwY19 b23
        have gG23 := kwY19.size
        have r23 := rowAt_below r19 b23
        have nr23 : g19 ≠ wY19.heap.size := Nat.ne_of_lt hl19
        have hl23 := Nat.lt_of_lt_of_le hl19 b23.size
        refine hK.out _ _ (kT.on kwY23) (fun _ => trivial) ?_
        clear hK K
        generalize wY19.alloc (.cells #[.slice none 0 0, .int .i64 0, .int .i64 0, .slice none 0 0, .int .i64 0, .slice none 0 0, .int .i64 0, .slice none 0 0, .int .i64 0, .slice none 0 0, .slice none 0 0, .slice none 0 0, .slice none 0 0] 32) = wY23 at *
        clear b23
        refine anyT_one (i := 3) (by kernel_rfl) rfl (fun K hK => ?_)
        go_simp
        refine (specPostNew_any _).mono ?_
        rintro e wY24 ⟨rfl, b24⟩
        have kwY24 := below_on kwY23 b24
        have r24 := rowAt_below r23 b24
        have hl24 := Nat.lt_of_lt_of_le hl23 b24.size
        have z24 := z23.on b24
        go_wp2_with (fail)
        refine hK.out _ _ (kT.on kwY24) (fun _ => trivial) ?_
        clear hK K
        refine anyT_takeT (i := 5) (v := .agg #[.slice (some ⟨g19, 0, none⟩) n cap19, .int .i64 0, .int .i64 0, .slice none 0 0, .int .i64 0, .slice none 0 0, .int .i64 0, .slice p4 M c4, .int .i64 0, .slice none 0 0, .slice none 0 0, .slice none 0 0, .slice none 0 0]) rfl (by kernel_rfl) (by kernel_rfl) (by kernel_rfl) (by kernel_rfl) (fun _ _ _ h => h) (Or.inl ⟨by rfl, fun X hSw => by (go_simp)⟩) (kT.on kwY24) (fun _ => trivial) ?_
        (try simp only [Act.put, List.getElem_toArray, List.getElem_cons_zero, List.getElem_cons_succ, List.setIfInBounds_toArray, List.set_cons_zero, List.set_cons_succ])
        refine anyT_one (i := 7) (by kernel_rfl) rfl (fun K hK => ?_)
        have gv25 := setCells_grown (wY19.heap.size) [.slice (some ⟨g19, 0, none⟩) n cap19, .int .i64 0, .int .i64 0, .slice none 0 0, .int .i64 0, .slice none 0 0, .int .i64 0, .slice p4 M c4, .int .i64 0, .slice none 0 0, .slice none 0 0, .slice none 0 0, .slice none 0 0] 0 wY24
        have v25 := Cells.setAll z24 [.slice (some ⟨g19, 0, none⟩) n cap19, .int .i64 0, .int .i64 0, .slice none 0 0, .int .i64 0, .slice none 0 0, .int .i64 0, .slice p4 M c4, .int .i64 0, .slice none 0 0, .slice none 0 0, .slice none 0 0, .slice none 0 0] rfl
        have gg25 : W.heap.size ≤ wY19.heap.size := (by assumption)
        have kE25 := setCells_below (wY19.heap.size) W.heap.size gg25 [.slice (some ⟨g19, 0, none⟩) n cap19, .int .i64 0, .int .i64 0, .slice none 0 0, .int .i64 0, .slice none 0 0, .int .i64 0, .slice p4 M c4, .int .i64 0, .slice none 0 0, .slice none 0 0, .slice none 0 0, .slice none 0 0] wY24 kwY24 kwY24.size
        have rE25 := rowAt_grown r24 gv25 nr23
        have lE25 := Nat.lt_of_lt_of_le hl24 gv25.size
        refine wp_store_mid 32 _ _ rfl (wY19.heap.size) 0 #[.slice (some ⟨g19, 0, none⟩) n cap19, .int .i64 0, .int .i64 0, .slice none 0 0, .int .i64 0, .slice none 0 0, .int .i64 0, .slice p4 M c4, .int .i64 0, .slice none 0 0, .slice none 0 0, .slice none 0 0, .slice none 0 0] rfl rfl z24.there (sizeWorld _ _ _ _ _ _ _ _ _ _ _ _ _) (all_oneCell_toArray (by simp [Value.oneCell'])) ?_
        refine hK.out _ _ (kT.on kE25) (fun _ => trivial) ?_
        clear hK K
        refine anyT_done (by kernel_rfl) ?_ _
        refine NoPanic.normal ?_
        exact TL _ _ _ _ _ kE25 v25 gg25 ⟨owns_mono rE25 gW19, fun k hk => by cases hk; exact lE25⟩
    · go_simp
      have z26 := Cells.made wY18 #[.slice none 0 0, .int .i64 0, .int .i64 0, .slice none 0 0, .int .i64 0, .slice none 0 0, .int .i64 0, .slice none 0 0, .int .i64 0, .slice none 0 0, .slice none 0 0, .slice none 0 0, .slice none 0 0] 32
      have b26 : Below wY18.heap.size wY18 (wY18.alloc (.cells #[.slice none 0 0, .int .i64 0, .int .i64 0, .slice none 0 0, .int .i64 0, .slice none 0 0, .int .i64 0, .slice none 0 0, .int .i64 0, .slice none 0 0, .slice none 0 0, .slice none 0 0, .slice none 0 0] 32)) := (Below.refl _ _).alloc (Nat.le_refl _) _
      have kwY26 := below_on kwY18 b26
      have gG26 := kwY18.size
      have e26 := emp_below e18 b26
      have ne26 : wY18.heap.size ≠ W.heap.size := Nat.ne_of_gt (Emp.lt e18)
      refine hK.out _ _ (kT.on kwY26) (fun _ => trivial) ?_
      clear hK K
      generalize wY18.alloc (.cells #[.slice none 0 0, .int .i64 0, .int .i64 0, .slice none 0 0, .int .i64 0, .slice none 0 0, .int .i64 0, .slice none 0 0, .int .i64 0, .slice none 0 0, .slice none 0 0, .slice none 0 0, .slice none 0 0] 32) = wY26 at *
      clear b26
      refine anyT_one (i := 2) (by kernel_rfl) rfl (fun K hK => ?_)
      refine step_fresh_all hi hz0 hz1 hz2 (.tmp 14) (.tmp 15) 22 Tryz.underlying22 rfl rfl rfl rfl e26 (in_below i0 kwY26) hx (by omega) kwY26 s18 ?_
      intro g27 cap27 wY27 r27 hg27 hl27 hs27 gr27 kwY27
      have gW27 : W.heap.size ≤ g27 := by have q1 := s18; have q2 := kwY26.size; rcases hg27 with h | h <;> omega
      have z27 := Cells.grown z26 gr27 (fun h => ne26 (Option.some.inj h))
      have nr27 : g27 ≠ wY18.heap.size := by have q1 := ne26; have q2 := z26.1; rcases hg27 with h | h <;> omega
      refine hK.out _ _ (kT.on kwY27) (fun _ => trivial) ?_
      clear hK K
      (try simp only [Act.put, List.getElem_toArray, List.getElem_cons_zero, List.getElem_cons_succ, List.setIfInBounds_toArray, List.set_cons_zero, List.set_cons_succ])
      refine anyT_one (i := 3) (by kernel_rfl) rfl (fun K hK => ?_)
      go_simp
      refine (specPostNew_any _).mono ?_
      rintro e wY28 ⟨rfl, b28⟩
      have kwY28 := below_on kwY27 b28
      have r28 := rowAt_below r27 b28
      have hl28 := Nat.lt_of_lt_of_le hl27 b28.size
      have z28 := z27.on b28
      go_wp2_with (fail)
      refine hK.out _ _ (kT.on kwY28) (fun _ => trivial) ?_
      clear hK K
      refine anyT_takeT (i := 5) (v := .agg #[.slice (some ⟨g27, 0, none⟩) n cap27, .int .i64 0, .int .i64 0, .slice none 0 0, .int .i64 0, .slice none 0 0, .int .i64 0, .slice p4 M c4, .int .i64 0, .slice none 0 0, .slice none 0 0, .slice none 0 0, .slice none 0 0]) rfl (by kernel_rfl) (by kernel_rfl) (by kernel_rfl) (by kernel_rfl) (fun _ _ _ h => h) (Or.inl ⟨by rfl, fun X hSw => by (go_simp)⟩) (kT.on kwY28) (fun _ => trivial) ?_
      (try simp only [Act.put, List.getElem_toArray, List.getElem_cons_zero, List.getElem_cons_succ, List.setIfInBounds_toArray, List.set_cons_zero, List.set_cons_succ])
      refine anyT_one (i := 7) (by kernel_rfl) rfl (fun K hK => ?_)
      have gv29 := setCells_grown (wY18.heap.size) [.slice (some ⟨g27, 0, none⟩) n cap27, .int .i64 0, .int .i64 0, .slice none 0 0, .int .i64 0, .slice none 0 0, .int .i64 0, .slice p4 M c4, .int .i64 0, .slice none 0 0, .slice none 0 0, .slice none 0 0, .slice none 0 0] 0 wY28
      have v29 := Cells.setAll z28 [.slice (some ⟨g27, 0, none⟩) n cap27, .int .i64 0, .int .i64 0, .slice none 0 0, .int .i64 0, .slice none 0 0, .int .i64 0, .slice p4 M c4, .int .i64 0, .slice none 0 0, .slice none 0 0, .slice none 0 0, .slice none 0 0] rfl
      have gg29 : W.heap.size ≤ wY18.heap.size := (by assumption)
      have kE29 := setCells_below (wY18.heap.size) W.heap.size gg29 [.slice (some ⟨g27, 0, none⟩) n cap27, .int .i64 0, .int .i64 0, .slice none 0 0, .int .i64 0, .slice none 0 0, .int .i64 0, .slice p4 M c4, .int .i64 0, .slice none 0 0, .slice none 0 0, .slice none 0 0, .slice none 0 0] wY28 kwY28 kwY28.size
      have rE29 := rowAt_grown r28 gv29 nr27
      have lE29 := Nat.lt_of_lt_of_le hl28 gv29.size
      refine wp_store_mid 32 _ _ rfl (wY18.heap.size) 0 #[.slice (some ⟨g27, 0, none⟩) n cap27, .int .i64 0, .int .i64 0, .slice none 0 0, .int .i64 0, .slice none 0 0, .int .i64 0, .slice p4 M c4, .int .i64 0, .slice none 0 0, .slice none 0 0, .slice none 0 0, .slice none 0 0] rfl rfl z28.there (sizeWorld _ _ _ _ _ _ _ _ _ _ _ _ _) (all_oneCell_toArray (by simp [Value.oneCell'])) ?_
      refine hK.out _ _ (kT.on kE29) (fun _ => trivial) ?_
      clear hK K
      refine anyT_done (by kernel_rfl) ?_ _
      refine NoPanic.normal ?_
      exact TL _ _ _ _ _ kE29 v29 gg29 ⟨owns_mono rE29 gW27, fun k hk => by cases hk; exact lE29⟩
  · go_simp
    have z30 := Cells.made W #[.slice none 0 0, .int .i64 0, .int .i64 0, .slice none 0 0, .int .i64 0, .slice none 0 0, .int .i64 0, .slice none 0 0, .int .i64 0, .slice none 0 0, .slice none 0 0, .slice none 0 0, .slice none 0 0] 32
    have b30 : Below W.heap.size W (W.alloc (.cells #[.slice none 0 0, .int .i64 0, .int .i64 0, .slice none 0 0, .int .i64 0, .slice none 0 0, .int .i64 0, .slice none 0 0, .int .i64 0, .slice none 0 0, .slice none 0 0, .slice none 0 0, .slice none 0 0] 32)) := (Below.refl _ _).alloc (Nat.le_refl _) _
    have kwY30 := below_on kW b30
    have gG30 := kW.size
    refine hK.out _ _ (kT.on kwY30) (fun _ => trivial) ?_
    clear hK K
    generalize W.alloc (.cells #[.slice none 0 0, .int .i64 0, .int .i64 0, .slice none 0 0, .int .i64 0, .slice none 0 0, .int .i64 0, .slice none 0 0, .int .i64 0, .slice none 0 0, .slice none 0 0, .slice none 0 0, .slice none 0 0] 32) = wY30 at *
    clear b30
    refine anyT_one (i := 0) (by kernel_rfl) rfl (fun K hK => ?_)
    go_simp
    have e31 := emp_made wY30 wY30.heap.size rfl
    have b31 : Below wY30.heap.size wY30 (wY30.alloc (.cells #[] 5)) := (Below.refl _ _).alloc (Nat.le_refl _) _
    have kwY31 := below_on kwY30 b31
    have s31 := kwY30.size
    have z31 := z30.on b31
    have ne31 : W.heap.size ≠ wY30.heap.size := Nat.ne_of_lt z30.1
    refine hK.out _ _ (kT.on kwY31) (fun _ => trivial) ?_
    clear hK K
    generalize wY30.alloc (.cells #[] 5) = wY31 at *
    clear b31
    refine anyT_one (i := 2) (by kernel_rfl) rfl (fun K hK => ?_)
    refine step_fresh_all hi hz0 hz1 hz2 (.tmp 14) (.tmp 15) 22 Tryz.underlying22 rfl rfl rfl rfl e31 (in_below i0 kwY31) hx (by omega) kwY31 s31 ?_
    intro g32 cap32 wY32 r32 hg32 hl32 hs32 gr32 kwY32
    have gW32 : W.heap.size ≤ g32 := by have q1 := s31; have q2 := kwY31.size; rcases hg32 with h | h <;> omega
    have z32 := Cells.grown z31 gr32 (fun h => ne31 (Option.some.inj h))
    have nr32 : g32 ≠ W.heap.size := by have q1 := ne31; have q2 := z31.1; rcases hg32 with h | h <;> omega
    refine hK.out _ _ (kT.on kwY32) (fun _ => trivial) ?_
    clear hK K
    (try simp only [Act.put, List.getElem_toArray, List.getElem_cons_zero, List.getElem_cons_succ, List.setIfInBounds_toArray, List.set_cons_zero, List.set_cons_succ])
    refine anyT_one (i := 3) (by kernel_rfl) rfl (fun K hK => ?_)
    go_simp
    refine (specPostNew_any _).mono ?_
    rintro e wY33 ⟨rfl, b33⟩
    have kwY33 := below_on kwY32 b33
    have r33 := rowAt_below r32 b33
    have hl33 := Nat.lt_of_lt_of_le hl32 b33.size
    have z33 := z32.on b33
    go_wp2_with (fail)
    refine hK.out _ _ (kT.on kwY33) (fun _ => trivial) ?_
    clear hK K
    refine anyT_takeT (i := 5) (v := .agg #[.slice (some ⟨g32, 0, none⟩) n cap32, .int .i64 0, .int .i64 0, .slice none 0 0, .int .i64 0, .slice none 0 0, .int .i64 0, .slice p4 M c4, .int .i64 0, .slice none 0 0, .slice none 0 0, .slice none 0 0, .slice none 0 0]) rfl (by kernel_rfl) (by kernel_rfl) (by kernel_rfl) (by kernel_rfl) (fun _ _ _ h => h) (Or.inl ⟨by rfl, fun X hSw => by (go_simp)⟩) (kT.on kwY33) (fun _ => trivial) ?_
    (try simp only [Act.put, List.getElem_toArray, List.getElem_cons_zero, List.getElem_cons_succ, List.setIfInBounds_toArray, List.set_cons_zero, List.set_cons_succ])
    refine anyT_one (i := 7) (by kernel_rfl) rfl (fun K hK => ?_)
    have gv34 := setCells_grown (W.heap.size) [.slice (some ⟨g32, 0, none⟩) n cap32, .int .i64 0, .int .i64 0, .slice none 0 0, .int .i64 0, .slice none 0 0, .int .i64 0, .slice p4 M c4, .int .i64 0, .slice none 0 0, .slice none 0 0, .slice none 0 0, .slice none 0 0] 0 wY33
    have v34 := Cells.setAll z33 [.slice (some ⟨g32, 0, none⟩) n cap32, .int .i64 0, .int .i64 0, .slice none 0 0, .int .i64 0, .slice none 0 0, .int .i64 0, .slice p4 M c4, .int .i64 0, .slice none 0 0, .slice none 0 0, .slice none 0 0, .slice none 0 0] rfl
    have gg34 : W.heap.size ≤ W.heap.size := (by assumption)
    have kE34 := setCells_below (W.heap.size) W.heap.size gg34 [.slice (some ⟨g32, 0, none⟩) n cap32, .int .i64 0, .int .i64 0, .slice none 0 0, .int .i64 0, .slice none 0 0, .int .i64 0, .slice p4 M c4, .int .i64 0, .slice none 0 0, .slice none 0 0, .slice none 0 0, .slice none 0 0] wY33 kwY33 kwY33.size
    have rE34 := rowAt_grown r33 gv34 nr32
    have lE34 := Nat.lt_of_lt_of_le hl33 gv34.size
    refine wp_store_mid 32 _ _ rfl (W.heap.size) 0 #[.slice (some ⟨g32, 0, none⟩) n cap32, .int .i64 0, .int .i64 0, .slice none 0 0, .int .i64 0, .slice none 0 0, .int .i64 0, .slice p4 M c4, .int .i64 0, .slice none 0 0, .slice none 0 0, .slice none 0 0, .slice none 0 0] rfl rfl z33.there (sizeWorld _ _ _ _ _ _ _ _ _ _ _ _ _) (all_oneCell_toArray (by simp [Value.oneCell'])) ?_
    refine hK.out _ _ (kT.on kE34) (fun _ => trivial) ?_
    clear hK K
    refine anyT_done (by kernel_rfl) ?_ _
    refine NoPanic.normal ?_
    exact TL _ _ _ _ _ kE34 v34 gg34 ⟨owns_mono rE34 gW32, fun k hk => by cases hk; exact lE34⟩
theorem specWorldNew_no (p q : Option Addr) (n c m d : Nat) (xs ys : List Int) (w : World) (hn : n ≤ 1048576) (hx : xs.length = n) (h0 : BytesIn w p n xs) (hm : m ≤ 1048576) (hy : ys.length = m) (h : BytesIn w q m ys) (hb : ∀ x ∈ ys, 0 ≤ x ∧ x < 256) (hne : ¬ (n = 32 ∧ m = 32)) : Calls Tryz.prog 5 #[.slice p n c, .slice q m d] w fun z w' => z = .returned (.tuple #[.agg #[.slice none 0 0, .int .i64 0, .int .i64 0, .slice none 0 0, .int .i64 0, .slice none 0 0, .int .i64 0, .slice none 0 0, .int .i64 0, .slice none 0 0, .slice none 0 0, .slice none 0 0, .slice none 0 0], .bool false]) ∧ Below w.heap.size w w' := by
  refine specWN_no p q n c m d _ xs _ _ w hn hx h0 (fun X b => specReaderNew_is q m d ys X hm hy (in_below h b) hb) (fun X p1 p4 c1 c4 i => ?_)
  by_cases hn' : n = 32
  · have hm' : ¬ m = 32 := fun e => hne ⟨hn', e⟩
    subst hn'
    rw [if_neg hm'] at i ⊢
    rw [if_neg hm'] at i
    refine (specWorldOk_32 p1 p4 c1 0 c4 [] X (by omega) rfl i (fun x hx => by simp at hx)).mono ?_
    rintro e w' ⟨rfl, b⟩
    exact ⟨rfl, b⟩
  · exact specWorldOk_no p1 p4 n c1 _ c4 X hn'
theorem specWorldNew_32 (p q : Option Addr) (c d : Nat) (xs ys : List Int) (w : World) (hx : xs.length = 32) (h0 : BytesIn w p 32 xs) (hy : ys.length = 32) (h : BytesIn w q 32 ys) (hb : ∀ x ∈ ys, 0 ≤ x ∧ x < 256) : Calls Tryz.prog 5 #[.slice p 32 c, .slice q 32 d] w fun z w' => ∃ p c qa ca qb cb p4 c4 qc cc qd cd k, z = .returned (.tuple #[.agg #[.slice p 32 c, .int .i64 0, .int .i64 0, .slice qa 0 ca, .int .i64 0, .slice qb 0 cb, .int .i64 0, .slice p4 32 c4, .int .i64 0, .slice qc 0 cc, .slice qd 0 cd, .slice none 0 0, .slice none 0 0], .bool true]) ∧ Own 5 w' w.heap.size w'.heap.size (.slice p 32 c) 32 xs ∧ Own 5 w' w.heap.size w'.heap.size (.slice p4 32 c4) 32 ys ∧ (w.heap.size ≤ k ∧ k ≤ w'.heap.size) ∧ Below w.heap.size w w' := by
  refine (specWN_yes p q 32 c 32 d 32 xs ys true w (by omega) hx h0 (fun X b => (specReaderNew_is q 32 d ys X (by omega) hy (in_below h b) hb).mono fun z w' k => by simpa using k) (fun X p1 p4 c1 c4 i => (specWorldOk_32 p1 p4 c1 32 c4 ys X (by omega) hy i hb).mono fun z w' k => by simpa using k)).mono ?_
  rintro z w' ⟨p1, c1, p4, c4, rfl, o1, o4, b⟩
  exact ⟨p1, c1, none, 0, none, 0, p4, c4, none, 0, none, 0, w.heap.size, rfl, o1, o4, ⟨Nat.le_refl _, b.size⟩, b⟩
end Go.Proofs.YthfnechcddmjkaaGreatDoor

namespace Go.Proofs.YthfnechcddmjkaaGreatDoor
open Go.RowKit
set_option maxRecDepth 100000

theorem worldNew_both (n0 n1 : Nat) (xs0 xs1 : List Int) (hn0 : n0 ≤ 1048576) (hn1 : n1 ≤ 1048576) (hx0 : xs0.length = n0) (hx1 : xs1.length = n1) (hb1 : ∀ x ∈ xs1, 0 ≤ x ∧ x < 256) : ∃ (N0 M0 : Nat) (X0 Y0 : List Int) (K0 : Bool), (N0 ≤ 32 ∧ M0 ≤ 32) ∧ X0.length = N0 ∧ Y0.length = M0 ∧ (∀ x ∈ Y0, 0 ≤ x ∧ x < 256) ∧ (∀ (p q : Option Addr) (c d : Nat) (X : World), ErrTab X → BytesIn X p n0 xs0 → BytesIn X q n1 xs1 → Calls Tryz.prog 5 #[.slice p n0 c, .slice q n1 d] X fun e w' => ∃ p c qa ca qb cb p4 c4 qc cc qd cd k, e = .returned (.tuple #[.agg #[.slice p N0 c, .int .i64 0, .int .i64 0, .slice qa 0 ca, .int .i64 0, .slice qb 0 cb, .int .i64 0, .slice p4 M0 c4, .int .i64 0, .slice qc 0 cc, .slice qd 0 cd, .slice none 0 0, .slice none 0 0], .bool K0]) ∧ Own 5 w' X.heap.size w'.heap.size (.slice p N0 c) N0 X0 ∧ Own 5 w' X.heap.size w'.heap.size (.slice p4 M0 c4) M0 Y0 ∧ (X.heap.size ≤ k ∧ k ≤ w'.heap.size) ∧ Below X.heap.size X w') ∧ (∀ (p q : Option Addr) (c d : Nat) (X : World), ErrTab X → BytesIn X p n0 xs0 → BytesIn X q n1 xs1 → Calls Tryz.prog 7 #[.slice p n0 c, .slice q n1 d] X fun e w' => ∃ p c qa ca qb cb p4 c4 qc cc qd cd k, e = .returned (.tuple #[.agg #[.slice p N0 c, .int .i64 0, .int .i64 0, .slice qa 0 ca, .int .i64 0, .slice qb 0 cb, .int .i64 0, .slice p4 M0 c4, .int .i64 0, .slice qc 0 cc, .slice qd 0 cd, .slice none 0 0, .slice none 0 0], .bool K0]) ∧ Own 5 w' X.heap.size k (.slice p N0 c) N0 X0 ∧ Own 5 w' k w'.heap.size (.slice p4 M0 c4) M0 Y0 ∧ (X.heap.size ≤ k ∧ k ≤ w'.heap.size) ∧ Below X.heap.size X w') := by
  by_cases e0 : n0 = 32
  · by_cases e1 : n1 = 32
    · subst e0
      subst e1
      exact ⟨32, 32, xs0, xs1, true, ⟨by omega, by omega⟩, hx0, hx1, hb1, fun p q c d X hE i j => specWorldNew_32 p q c d xs0 xs1 X hx0 i hx1 j hb1, fun p q c d X hE i j => (implWorldNew_32 p q c d xs0 xs1 X hE hx0 i hx1 j hb1).mono fun e w' ⟨p', c', qa, ca, qb, cb, p4, c4, qc, cc, qd, cd, k, h, o, o', b⟩ => ⟨p', c', qa, ca, qb, cb, p4, c4, qc, cc, qd, cd, k, h, o, o', ⟨own_le o, own_le o'⟩, b⟩⟩
    · subst e0
      exact ⟨0, 0, [], [], false, ⟨by omega, by omega⟩, rfl, rfl, fun x hx => by simp at hx, fun p q c d X hE i j => (specWorldNew_no p q 32 c n1 d xs0 xs1 X hn0 hx0 i hn1 hx1 j hb1 (fun h => e1 h.2)).mono fun e w' ⟨h, b⟩ => ⟨none, 0, none, 0, none, 0, none, 0, none, 0, none, 0, w'.heap.size, h, own_none _ _, own_none _ _, ⟨b.size, Nat.le_refl _⟩, b⟩, fun p q c d X hE i j => (implWorldNew_no2 p q c n1 d xs1 X hE hn1 hx1 j hb1 e1).mono fun e w' ⟨h, b⟩ => ⟨none, 0, none, 0, none, 0, none, 0, none, 0, none, 0, w'.heap.size, h, own_none _ _, own_none _ _, ⟨b.size, Nat.le_refl _⟩, b⟩⟩
  · exact ⟨0, 0, [], [], false, ⟨by omega, by omega⟩, rfl, rfl, fun x hx => by simp at hx, fun p q c d X hE i j => (specWorldNew_no p q n0 c n1 d xs0 xs1 X hn0 hx0 i hn1 hx1 j hb1 (fun h => e0 h.1)).mono fun e w' ⟨h, b⟩ => ⟨none, 0, none, 0, none, 0, none, 0, none, 0, none, 0, w'.heap.size, h, own_none _ _, own_none _ _, ⟨b.size, Nat.le_refl _⟩, b⟩, fun p q c d X hE i j => (implWorldNew_no p q n0 c n1 d X e0).mono fun e w' ⟨h, b⟩ => ⟨none, 0, none, 0, none, 0, none, 0, none, 0, none, 0, w'.heap.size, h, own_none _ _, own_none _ _, ⟨b.size, Nat.le_refl _⟩, b⟩⟩

set_option maxHeartbeats 16000000 in
theorem worldNew_small (p0 p1 : Option Addr) (n0 q0 n1 q1 : Nat) (xs0 xs1 : List Int) (w : World) (hn0 : n0 ≤ 1048576) (hn1 : n1 ≤ 1048576) (hE : ErrTab w) (hx0 : xs0.length = n0) (h0 : BytesIn w p0 n0 xs0) (hx1 : xs1.length = n1) (h1 : BytesIn w p1 n1 xs1) (hb1 : ∀ x ∈ xs1, 0 ≤ x ∧ x < 256) :
    Calls Tryz.prog 3 #[.slice p0 n0 q0, .slice p1 n1 q1] w fun e w' => e = .returned (.bool true) ∧ Below w.heap.size w w' := by
  have c0 : ¬ (1048576 : Int) < (n0 : Int) := by omega
  have c1 : ¬ (1048576 : Int) < (n1 : Int) := by omega
  obtain ⟨N0, M0, X0, Y0, K0, hNM, hX0, hY0, hB0, CS, CI⟩ := worldNew_both n0 n1 xs0 xs1 hn0 hn1 hx0 hx1 hb1
  have hN0 : N0 ≤ 1048576 := by omega
  have hM0 : M0 ≤ 1048576 := by omega
  have hKK : (K0 != K0) = false := by simp
  have g1 : ¬ (1 : Int) + (n0 : Int) + (n1 : Int) < 0 := by omega
  have g2 : ¬ (1 : Int) + (N0 : Int) + (M0 : Int) < 0 := by omega
  go_enter Tryz.func3, Tryz.ntmps3
  go_wp2_with (fail)
  refine (toByteS_own p0 n0 q0 xs0 _ hn0 hx0 h0).mono ?_
  rintro e w1 ⟨pr1, cr1, rfl, r1, b1⟩
  have k1 : Below w.heap.size w w1 := below_on (Below.refl _ _) b1
  have z1 := b1.size
  go_wp2_with (fail)
  refine (toByteS_own p1 n1 q1 xs1 _ hn1 hx1 (in_below h1 k1)).mono ?_
  rintro e w2 ⟨pr2, cr2, rfl, r2, b2⟩
  have k2 : Below w.heap.size w w2 := below_on k1 b2
  have z2 := b2.size
  replace r1 := r1.on b2
  go_wp2_with (fail)
  refine (CS pr1 pr2 cr1 cr2 _ (hE.on k2) r1.bytes r2.bytes).mono ?_
  rintro e w3 ⟨pr3a, cr3a, qar3, car3, qbr3, cbr3, pr3b, cr3b, qcr3, ccr3, qdr3, cdr3, kkr3, rfl, r3a, r3b, qr3, b3⟩
  have k3 : Below w.heap.size w w3 := below_on k2 b3
  have z3 := b3.size
  replace r1 := r1.on b3
  replace r2 := r2.on b3
  obtain ⟨w4, hw4⟩ : ∃ X, X = w3.alloc (.cells #[.slice pr3a N0 cr3a, .int .i64 0, .int .i64 0, .slice qar3 0 car3, .int .i64 0, .slice qbr3 0 cbr3, .int .i64 0, .slice pr3b M0 cr3b, .int .i64 0, .slice qcr3 0 ccr3, .slice qdr3 0 cdr3, .slice none 0 0, .slice none 0 0] 32) := ⟨_, rfl⟩
  have b4 : Below w3.heap.size w3 w4 := by rw [hw4]; exact made_below _ _ (Below.refl _ _)
  have Cw : Cells w4 w3.heap.size #[.slice pr3a N0 cr3a, .int .i64 0, .int .i64 0, .slice qar3 0 car3, .int .i64 0, .slice qbr3 0 cbr3, .int .i64 0, .slice pr3b M0 cr3b, .int .i64 0, .slice qcr3 0 ccr3, .slice qdr3 0 cdr3, .slice none 0 0, .slice none 0 0] := by rw [hw4]; exact Cells.made _ _ _
  replace hw4 : Hid (w3.alloc (.cells #[.slice pr3a N0 cr3a, .int .i64 0, .int .i64 0, .slice qar3 0 car3, .int .i64 0, .slice qbr3 0 cbr3, .int .i64 0, .slice pr3b M0 cr3b, .int .i64 0, .slice qcr3 0 ccr3, .slice qdr3 0 cdr3, .slice none 0 0, .slice none 0 0] 32) = w4) := hw4.symm
  have k4 : Below w.heap.size w w4 := below_on k3 b4
  have z4 := b4.size
  replace r1 := r1.on b4
  replace r2 := r2.on b4
  replace r3a := r3a.on b4
  replace r3b := r3b.on b4
  go_wp2_with (rw [hw4.out])
  clear hw4
  obtain ⟨Bw, hBw⟩ : ∃ B, B = w3.heap.size := ⟨_, rfl⟩
  have vw : w3.heap.size ≤ Bw ∧ Bw < w4.heap.size := by rw [hBw]; exact ⟨Nat.le_refl _, Cw.1⟩
  rw [← hBw] at Cw  ⊢
  clear hBw
  refine (toByteS_own p0 n0 q0 xs0 _ hn0 hx0 (in_below h0 k4)).mono ?_
  rintro e w5 ⟨pr4, cr4, rfl, r4, b5⟩
  have k5 : Below w.heap.size w w5 := below_on k4 b5
  have z5 := b5.size
  replace r1 := r1.on b5
  replace r2 := r2.on b5
  replace r3a := r3a.on b5
  replace r3b := r3b.on b5
  replace Cw := Cw.on b5
  go_wp2_with (fail)
  refine (toByteS_own p1 n1 q1 xs1 _ hn1 hx1 (in_below h1 k5)).mono ?_
  rintro e w6 ⟨pr5, cr5, rfl, r5, b6⟩
  have k6 : Below w.heap.size w w6 := below_on k5 b6
  have z6 := b6.size
  replace r1 := r1.on b6
  replace r2 := r2.on b6
  replace r3a := r3a.on b6
  replace r3b := r3b.on b6
  replace r4 := r4.on b6
  replace Cw := Cw.on b6
  go_wp2_with (fail)
  refine (CI pr4 pr5 cr4 cr5 _ (hE.on k6) r4.bytes r5.bytes).mono ?_
  rintro e w7 ⟨pr6a, cr6a, qar6, car6, qbr6, cbr6, pr6b, cr6b, qcr6, ccr6, qdr6, cdr6, kkr6, rfl, r6a, r6b, qr6, b7⟩
  have k7 : Below w.heap.size w w7 := below_on k6 b7
  have z7 := b7.size
  replace r1 := r1.on b7
  replace r2 := r2.on b7
  replace r3a := r3a.on b7
  replace r3b := r3b.on b7
  replace r4 := r4.on b7
  replace r5 := r5.on b7
  replace Cw := Cw.on b7
  obtain ⟨w8, hw8⟩ : ∃ X, X = w7.alloc (.cells #[.slice pr6a N0 cr6a, .int .i64 0, .int .i64 0, .slice qar6 0 car6, .int .i64 0, .slice qbr6 0 cbr6, .int .i64 0, .slice pr6b M0 cr6b, .int .i64 0, .slice qcr6 0 ccr6, .slice qdr6 0 cdr6, .slice none 0 0, .slice none 0 0] 32) := ⟨_, rfl⟩
  have b8 : Below w7.heap.size w7 w8 := by rw [hw8]; exact made_below _ _ (Below.refl _ _)
  have Cg : Cells w8 w7.heap.size #[.slice pr6a N0 cr6a, .int .i64 0, .int .i64 0, .slice qar6 0 car6, .int .i64 0, .slice qbr6 0 cbr6, .int .i64 0, .slice pr6b M0 cr6b, .int .i64 0, .slice qcr6 0 ccr6, .slice qdr6 0 cdr6, .slice none 0 0, .slice none 0 0] := by rw [hw8]; exact Cells.made _ _ _
  replace hw8 : Hid (w7.alloc (.cells #[.slice pr6a N0 cr6a, .int .i64 0, .int .i64 0, .slice qar6 0 car6, .int .i64 0, .slice qbr6 0 cbr6, .int .i64 0, .slice pr6b M0 cr6b, .int .i64 0, .slice qcr6 0 ccr6, .slice qdr6 0 cdr6, .slice none 0 0, .slice none 0 0] 32) = w8) := hw8.symm
  have k8 : Below w.heap.size w w8 := below_on k7 b8
  have z8 := b8.size
  replace r1 := r1.on b8
  replace r2 := r2.on b8
  replace r3a := r3a.on b8
  replace r3b := r3b.on b8
  replace r4 := r4.on b8
  replace r5 := r5.on b8
  replace r6a := r6a.on b8
  replace r6b := r6b.on b8
  replace Cw := Cw.on b8
  have lg0 : w8.cell? ⟨w7.heap.size, 0, none⟩ = some (.slice pr6a N0 cr6a) := (Cg.2 0).1
  have lg1 : w8.cell? ⟨w7.heap.size, 1, none⟩ = some (.int .i64 0) := (Cg.2 1).1
  have lg2 : w8.cell? ⟨w7.heap.size, 2, none⟩ = some (.int .i64 0) := (Cg.2 2).1
  have lg3 : w8.cell? ⟨w7.heap.size, 3, none⟩ = some (.slice qar6 0 car6) := (Cg.2 3).1
  have lg4 : w8.cell? ⟨w7.heap.size, 4, none⟩ = some (.int .i64 0) := (Cg.2 4).1
  have lg5 : w8.cell? ⟨w7.heap.size, 5, none⟩ = some (.slice qbr6 0 cbr6) := (Cg.2 5).1
  have lg6 : w8.cell? ⟨w7.heap.size, 6, none⟩ = some (.int .i64 0) := (Cg.2 6).1
  have lg7 : w8.cell? ⟨w7.heap.size, 7, none⟩ = some (.slice pr6b M0 cr6b) := (Cg.2 7).1
  have lg8 : w8.cell? ⟨w7.heap.size, 8, none⟩ = some (.int .i64 0) := (Cg.2 8).1
  have lg9 : w8.cell? ⟨w7.heap.size, 9, none⟩ = some (.slice qcr6 0 ccr6) := (Cg.2 9).1
  have lg10 : w8.cell? ⟨w7.heap.size, 10, none⟩ = some (.slice qdr6 0 cdr6) := (Cg.2 10).1
  have lg11 : w8.cell? ⟨w7.heap.size, 11, none⟩ = some (.slice none 0 0) := (Cg.2 11).1
  have lg12 : w8.cell? ⟨w7.heap.size, 12, none⟩ = some (.slice none 0 0) := (Cg.2 12).1
  have lw0 : w8.cell? ⟨Bw, 0, none⟩ = some (.slice pr3a N0 cr3a) := (Cw.2 0).1
  have lw1 : w8.cell? ⟨Bw, 1, none⟩ = some (.int .i64 0) := (Cw.2 1).1
  have lw2 : w8.cell? ⟨Bw, 2, none⟩ = some (.int .i64 0) := (Cw.2 2).1
  have lw3 : w8.cell? ⟨Bw, 3, none⟩ = some (.slice qar3 0 car3) := (Cw.2 3).1
  have lw4 : w8.cell? ⟨Bw, 4, none⟩ = some (.int .i64 0) := (Cw.2 4).1
  have lw5 : w8.cell? ⟨Bw, 5, none⟩ = some (.slice qbr3 0 cbr3) := (Cw.2 5).1
  have lw6 : w8.cell? ⟨Bw, 6, none⟩ = some (.int .i64 0) := (Cw.2 6).1
  have lw7 : w8.cell? ⟨Bw, 7, none⟩ = some (.slice pr3b M0 cr3b) := (Cw.2 7).1
  have lw8 : w8.cell? ⟨Bw, 8, none⟩ = some (.int .i64 0) := (Cw.2 8).1
  have lw9 : w8.cell? ⟨Bw, 9, none⟩ = some (.slice qcr3 0 ccr3) := (Cw.2 9).1
  have lw10 : w8.cell? ⟨Bw, 10, none⟩ = some (.slice qdr3 0 cdr3) := (Cw.2 10).1
  have lw11 : w8.cell? ⟨Bw, 11, none⟩ = some (.slice none 0 0) := (Cw.2 11).1
  have lw12 : w8.cell? ⟨Bw, 12, none⟩ = some (.slice none 0 0) := (Cw.2 12).1
  go_wp2_with (rw [hw8.out])
  clear hw8
  obtain ⟨Bg, hBg⟩ : ∃ B, B = w7.heap.size := ⟨_, rfl⟩
  have vg : w7.heap.size ≤ Bg ∧ Bg < w8.heap.size := by rw [hBg]; exact ⟨Nat.le_refl _, Cg.1⟩
  rw [← hBg] at Cg lg0 lg1 lg2 lg3 lg4 lg5 lg6 lg7 lg8 lg9 lg10 lg11 lg12 ⊢
  clear hBg
  clear lg0 lg1 lg2 lg3 lg4 lg5 lg6 lg7 lg8 lg9 lg10 lg11 lg12 lw0 lw1 lw2 lw3 lw4 lw5 lw6 lw7 lw8 lw9 lw10 lw11 lw12
  refine (eqWorld_new pr6a qar6 qbr6 pr6b qcr6 qdr6 pr3a qar3 qbr3 pr3b qcr3 qdr3 N0 M0 cr6a car6 cbr6 cr6b ccr6 cdr6 cr3a car3 cbr3 cr3b ccr3 cdr3   X0 Y0 _ hN0 hX0 hM0 hY0 hB0 r6a.bytes r3a.bytes r6b.bytes r3b.bytes).mono ?_
  rintro e w9 ⟨rfl, b9⟩
  have k9 : Below w.heap.size w w9 := below_on k8 b9
  have z9 := b9.size
  replace r1 := r1.on b9
  replace r2 := r2.on b9
  replace r3a := r3a.on b9
  replace r3b := r3b.on b9
  replace r4 := r4.on b9
  replace r5 := r5.on b9
  replace r6a := r6a.on b9
  replace r6b := r6b.on b9
  replace Cw := Cw.on b9
  replace Cg := Cg.on b9
  go_wp2_with (fail)
  refine (toByteS_own p0 n0 q0 xs0 _ hn0 hx0 (in_below h0 k9)).mono ?_
  rintro e w10 ⟨pr7, cr7, rfl, r7, b10⟩
  have k10 : Below w.heap.size w w10 := below_on k9 b10
  have z10 := b10.size
  replace r1 := r1.on b10
  replace r2 := r2.on b10
  replace r3a := r3a.on b10
  replace r3b := r3b.on b10
  replace r4 := r4.on b10
  replace r5 := r5.on b10
  replace r6a := r6a.on b10
  replace r6b := r6b.on b10
  replace Cw := Cw.on b10
  replace Cg := Cg.on b10
  go_wp2_with (fail)
  refine (eqByteS_any pr4 pr7 n0 n0 cr4 cr7 xs0 xs0 _ (by omega) r4.len r7.len r4.bytes r7.bytes).mono ?_
  rintro e w11 ⟨rfl, b11⟩
  have k11 : Below w.heap.size w w11 := below_on k10 b11
  have z11 := b11.size
  replace r1 := r1.on b11
  replace r2 := r2.on b11
  replace r3a := r3a.on b11
  replace r3b := r3b.on b11
  replace r4 := r4.on b11
  replace r5 := r5.on b11
  replace r6a := r6a.on b11
  replace r6b := r6b.on b11
  replace r7 := r7.on b11
  replace Cw := Cw.on b11
  replace Cg := Cg.on b11
  go_wp2_with (fail)
  refine (toByteS_own p1 n1 q1 xs1 _ hn1 hx1 (in_below h1 k11)).mono ?_
  rintro e w12 ⟨pr8, cr8, rfl, r8, b12⟩
  have k12 : Below w.heap.size w w12 := below_on k11 b12
  have z12 := b12.size
  replace r1 := r1.on b12
  replace r2 := r2.on b12
  replace r3a := r3a.on b12
  replace r3b := r3b.on b12
  replace r4 := r4.on b12
  replace r5 := r5.on b12
  replace r6a := r6a.on b12
  replace r6b := r6b.on b12
  replace r7 := r7.on b12
  replace Cw := Cw.on b12
  replace Cg := Cg.on b12
  go_wp2_with (fail)
  refine (eqByteS_any pr5 pr8 n1 n1 cr5 cr8 xs1 xs1 _ (by omega) r5.len r8.len r5.bytes r8.bytes).mono ?_
  rintro e w13 ⟨rfl, b13⟩
  have k13 : Below w.heap.size w w13 := below_on k12 b13
  have z13 := b13.size
  replace r1 := r1.on b13
  replace r2 := r2.on b13
  replace r3a := r3a.on b13
  replace r3b := r3b.on b13
  replace r4 := r4.on b13
  replace r5 := r5.on b13
  replace r6a := r6a.on b13
  replace r6b := r6b.on b13
  replace r7 := r7.on b13
  replace r8 := r8.on b13
  replace Cw := Cw.on b13
  replace Cg := Cg.on b13
  go_wp2_with (fail)
  refine (markByteS_own _ _ pr4 n0 cr4 xs0 1 _ (by omega) (by omega) (by omega) r4).mono ?_
  rintro e w14 ⟨rfl, m14, g14⟩
  have k14 : Below w.heap.size w w14 := below_mark k13 g14 r4 (by omega)
  have z14 := g14.size
  replace Cw := Cw.far g14 r4 (by omega)
  replace Cg := Cg.far g14 r4 (by omega)
  replace r1 := r1.far g14 r4 (by omega)
  replace r2 := r2.far g14 r4 (by omega)
  replace r3a := r3a.far g14 r4 (by omega)
  replace r3b := r3b.far g14 r4 (by omega)
  replace r5 := r5.far g14 r4 (by omega)
  replace r6a := r6a.far g14 r4 (by omega)
  replace r6b := r6b.far g14 r4 (by omega)
  replace r7 := r7.far g14 r4 (by omega)
  replace r8 := r8.far g14 r4 (by omega)
  clear r4 g14
  have r4 := m14
  clear m14
  go_wp2_with (fail)
  refine (markByteS_own _ _ pr5 n1 cr5 xs1 (1 + (n0 : Int)) _ (by omega) (by omega) (by omega) r5).mono ?_
  rintro e w15 ⟨rfl, m15, g15⟩
  have k15 : Below w.heap.size w w15 := below_mark k14 g15 r5 (by omega)
  have z15 := g15.size
  replace Cw := Cw.far g15 r5 (by omega)
  replace Cg := Cg.far g15 r5 (by omega)
  replace r1 := r1.far g15 r5 (by omega)
  replace r2 := r2.far g15 r5 (by omega)
  replace r3a := r3a.far g15 r5 (by omega)
  replace r3b := r3b.far g15 r5 (by omega)
  replace r4 := r4.far g15 r5 (by omega)
  replace r6a := r6a.far g15 r5 (by omega)
  replace r6b := r6b.far g15 r5 (by omega)
  replace r7 := r7.far g15 r5 (by omega)
  replace r8 := r8.far g15 r5 (by omega)
  clear r5 g15
  have r5 := m15
  clear m15
  have lg0 : w15.cell? ⟨Bg, 0, none⟩ = some (.slice pr6a N0 cr6a) := (Cg.2 0).1
  have lg1 : w15.cell? ⟨Bg, 1, none⟩ = some (.int .i64 0) := (Cg.2 1).1
  have lg2 : w15.cell? ⟨Bg, 2, none⟩ = some (.int .i64 0) := (Cg.2 2).1
  have lg3 : w15.cell? ⟨Bg, 3, none⟩ = some (.slice qar6 0 car6) := (Cg.2 3).1
  have lg4 : w15.cell? ⟨Bg, 4, none⟩ = some (.int .i64 0) := (Cg.2 4).1
  have lg5 : w15.cell? ⟨Bg, 5, none⟩ = some (.slice qbr6 0 cbr6) := (Cg.2 5).1
  have lg6 : w15.cell? ⟨Bg, 6, none⟩ = some (.int .i64 0) := (Cg.2 6).1
  have lg7 : w15.cell? ⟨Bg, 7, none⟩ = some (.slice pr6b M0 cr6b) := (Cg.2 7).1
  have lg8 : w15.cell? ⟨Bg, 8, none⟩ = some (.int .i64 0) := (Cg.2 8).1
  have lg9 : w15.cell? ⟨Bg, 9, none⟩ = some (.slice qcr6 0 ccr6) := (Cg.2 9).1
  have lg10 : w15.cell? ⟨Bg, 10, none⟩ = some (.slice qdr6 0 cdr6) := (Cg.2 10).1
  have lg11 : w15.cell? ⟨Bg, 11, none⟩ = some (.slice none 0 0) := (Cg.2 11).1
  have lg12 : w15.cell? ⟨Bg, 12, none⟩ = some (.slice none 0 0) := (Cg.2 12).1
  have lw0 : w15.cell? ⟨Bw, 0, none⟩ = some (.slice pr3a N0 cr3a) := (Cw.2 0).1
  have lw1 : w15.cell? ⟨Bw, 1, none⟩ = some (.int .i64 0) := (Cw.2 1).1
  have lw2 : w15.cell? ⟨Bw, 2, none⟩ = some (.int .i64 0) := (Cw.2 2).1
  have lw3 : w15.cell? ⟨Bw, 3, none⟩ = some (.slice qar3 0 car3) := (Cw.2 3).1
  have lw4 : w15.cell? ⟨Bw, 4, none⟩ = some (.int .i64 0) := (Cw.2 4).1
  have lw5 : w15.cell? ⟨Bw, 5, none⟩ = some (.slice qbr3 0 cbr3) := (Cw.2 5).1
  have lw6 : w15.cell? ⟨Bw, 6, none⟩ = some (.int .i64 0) := (Cw.2 6).1
  have lw7 : w15.cell? ⟨Bw, 7, none⟩ = some (.slice pr3b M0 cr3b) := (Cw.2 7).1
  have lw8 : w15.cell? ⟨Bw, 8, none⟩ = some (.int .i64 0) := (Cw.2 8).1
  have lw9 : w15.cell? ⟨Bw, 9, none⟩ = some (.slice qcr3 0 ccr3) := (Cw.2 9).1
  have lw10 : w15.cell? ⟨Bw, 10, none⟩ = some (.slice qdr3 0 cdr3) := (Cw.2 10).1
  have lw11 : w15.cell? ⟨Bw, 11, none⟩ = some (.slice none 0 0) := (Cw.2 11).1
  have lw12 : w15.cell? ⟨Bw, 12, none⟩ = some (.slice none 0 0) := (Cw.2 12).1
  go_wp2_with (fail)
  clear lg0 lg1 lg2 lg3 lg4 lg5 lg6 lg7 lg8 lg9 lg10 lg11 lg12 lw0 lw1 lw2 lw3 lw4 lw5 lw6 lw7 lw8 lw9 lw10 lw11 lw12
  refine (eqWorld_new pr6a qar6 qbr6 pr6b qcr6 qdr6 pr3a qar3 qbr3 pr3b qcr3 qdr3 N0 M0 cr6a car6 cbr6 cr6b ccr6 cdr6 cr3a car3 cbr3 cr3b ccr3 cdr3   X0 Y0 _ hN0 hX0 hM0 hY0 hB0 r6a.bytes r3a.bytes r6b.bytes r3b.bytes).mono ?_
  rintro e w16 ⟨rfl, b16⟩
  have k16 : Below w.heap.size w w16 := below_on k15 b16
  have z16 := b16.size
  replace r1 := r1.on b16
  replace r2 := r2.on b16
  replace r3a := r3a.on b16
  replace r3b := r3b.on b16
  replace r4 := r4.on b16
  replace r5 := r5.on b16
  replace r6a := r6a.on b16
  replace r6b := r6b.on b16
  replace r7 := r7.on b16
  replace r8 := r8.on b16
  replace Cw := Cw.on b16
  replace Cg := Cg.on b16
  have lg0 : w16.cell? ⟨Bg, 0, none⟩ = some (.slice pr6a N0 cr6a) := (Cg.2 0).1
  have lg1 : w16.cell? ⟨Bg, 1, none⟩ = some (.int .i64 0) := (Cg.2 1).1
  have lg2 : w16.cell? ⟨Bg, 2, none⟩ = some (.int .i64 0) := (Cg.2 2).1
  have lg3 : w16.cell? ⟨Bg, 3, none⟩ = some (.slice qar6 0 car6) := (Cg.2 3).1
  have lg4 : w16.cell? ⟨Bg, 4, none⟩ = some (.int .i64 0) := (Cg.2 4).1
  have lg5 : w16.cell? ⟨Bg, 5, none⟩ = some (.slice qbr6 0 cbr6) := (Cg.2 5).1
  have lg6 : w16.cell? ⟨Bg, 6, none⟩ = some (.int .i64 0) := (Cg.2 6).1
  have lg7 : w16.cell? ⟨Bg, 7, none⟩ = some (.slice pr6b M0 cr6b) := (Cg.2 7).1
  have lg8 : w16.cell? ⟨Bg, 8, none⟩ = some (.int .i64 0) := (Cg.2 8).1
  have lg9 : w16.cell? ⟨Bg, 9, none⟩ = some (.slice qcr6 0 ccr6) := (Cg.2 9).1
  have lg10 : w16.cell? ⟨Bg, 10, none⟩ = some (.slice qdr6 0 cdr6) := (Cg.2 10).1
  have lg11 : w16.cell? ⟨Bg, 11, none⟩ = some (.slice none 0 0) := (Cg.2 11).1
  have lg12 : w16.cell? ⟨Bg, 12, none⟩ = some (.slice none 0 0) := (Cg.2 12).1
  go_wp2_with (fail)
  clear lg0 lg1 lg2 lg3 lg4 lg5 lg6 lg7 lg8 lg9 lg10 lg11 lg12
  refine (markWorld_own _ _ _ _ pr6a qar6 qbr6 pr6b qcr6 qdr6 N0 M0 cr6a car6 cbr6 cr6b ccr6 cdr6 X0 Y0 1 _ hN0 hM0 (by omega) (by omega) hNM (Or.inl (Nat.le_refl _)) (by omega) (by omega) r6a r6b).mono ?_
  rintro e w17 ⟨rfl, wa17, wc17, wb17, ba17, ga17, bb17, gb17, ma17, mb17⟩
  have za17 := ba17.size
  have zc17 := ga17.size
  have zb17 := bb17.size
  have z17 := gb17.size
  replace Cw := Cw.on ba17
  replace Cg := Cg.on ba17
  replace r1 := r1.on ba17
  replace r2 := r2.on ba17
  replace r3a := r3a.on ba17
  replace r3b := r3b.on ba17
  replace r4 := r4.on ba17
  replace r5 := r5.on ba17
  replace r6a := r6a.on ba17
  replace r6b := r6b.on ba17
  replace r7 := r7.on ba17
  replace r8 := r8.on ba17
  have ka17 := below_on k16 ba17
  have kc17 := below_mark ka17 ga17 r6a (by omega)
  replace Cw := Cw.far ga17 r6a (by omega)
  replace Cg := Cg.far ga17 r6a (by omega)
  replace r1 := r1.far ga17 r6a (by omega)
  replace r2 := r2.far ga17 r6a (by omega)
  replace r3a := r3a.far ga17 r6a (by omega)
  replace r3b := r3b.far ga17 r6a (by omega)
  replace r4 := r4.far ga17 r6a (by omega)
  replace r5 := r5.far ga17 r6a (by omega)
  replace r6b := r6b.far ga17 r6a (by omega)
  replace r7 := r7.far ga17 r6a (by omega)
  replace r8 := r8.far ga17 r6a (by omega)
  replace Cw := Cw.on bb17
  replace Cg := Cg.on bb17
  replace r1 := r1.on bb17
  replace r2 := r2.on bb17
  replace r3a := r3a.on bb17
  replace r3b := r3b.on bb17
  replace r4 := r4.on bb17
  replace r5 := r5.on bb17
  replace r6b := r6b.on bb17
  replace r7 := r7.on bb17
  replace r8 := r8.on bb17
  have kb17 := below_on kc17 bb17
  have k17 : Below w.heap.size w w17 := below_mark kb17 gb17 r6b (by omega)
  replace Cw := Cw.far gb17 r6b (by omega)
  replace Cg := Cg.far gb17 r6b (by omega)
  replace r1 := r1.far gb17 r6b (by omega)
  replace r2 := r2.far gb17 r6b (by omega)
  replace r3a := r3a.far gb17 r6b (by omega)
  replace r3b := r3b.far gb17 r6b (by omega)
  replace r4 := r4.far gb17 r6b (by omega)
  replace r5 := r5.far gb17 r6b (by omega)
  replace r7 := r7.far gb17 r6b (by omega)
  replace r8 := r8.far gb17 r6b (by omega)
  clear r6a r6b ga17 gb17 ba17 bb17 ka17 kc17 kb17
  have r6a := ma17
  have r6b := mb17
  clear ma17 mb17
  have lg0 : w17.cell? ⟨Bg, 0, none⟩ = some (.slice pr6a N0 cr6a) := (Cg.2 0).1
  have lg1 : w17.cell? ⟨Bg, 1, none⟩ = some (.int .i64 0) := (Cg.2 1).1
  have lg2 : w17.cell? ⟨Bg, 2, none⟩ = some (.int .i64 0) := (Cg.2 2).1
  have lg3 : w17.cell? ⟨Bg, 3, none⟩ = some (.slice qar6 0 car6) := (Cg.2 3).1
  have lg4 : w17.cell? ⟨Bg, 4, none⟩ = some (.int .i64 0) := (Cg.2 4).1
  have lg5 : w17.cell? ⟨Bg, 5, none⟩ = some (.slice qbr6 0 cbr6) := (Cg.2 5).1
  have lg6 : w17.cell? ⟨Bg, 6, none⟩ = some (.int .i64 0) := (Cg.2 6).1
  have lg7 : w17.cell? ⟨Bg, 7, none⟩ = some (.slice pr6b M0 cr6b) := (Cg.2 7).1
  have lg8 : w17.cell? ⟨Bg, 8, none⟩ = some (.int .i64 0) := (Cg.2 8).1
  have lg9 : w17.cell? ⟨Bg, 9, none⟩ = some (.slice qcr6 0 ccr6) := (Cg.2 9).1
  have lg10 : w17.cell? ⟨Bg, 10, none⟩ = some (.slice qdr6 0 cdr6) := (Cg.2 10).1
  have lg11 : w17.cell? ⟨Bg, 11, none⟩ = some (.slice none 0 0) := (Cg.2 11).1
  have lg12 : w17.cell? ⟨Bg, 12, none⟩ = some (.slice none 0 0) := (Cg.2 12).1
  go_wp2_with (fail)
  clear lg0 lg1 lg2 lg3 lg4 lg5 lg6 lg7 lg8 lg9 lg10 lg11 lg12
  refine (heldWorld_new pr6a qar6 qbr6 pr6b qcr6 qdr6 N0 M0 cr6a car6 cbr6 cr6b ccr6 cdr6 1 _ hN0 hM0 (by omega) (by omega) r6a.bytes r6b.bytes hNM).mono ?_
  rintro e w18 ⟨rfl, b18⟩
  have k18 : Below w.heap.size w w18 := below_on k17 b18
  have z18 := b18.size
  replace r1 := r1.on b18
  replace r2 := r2.on b18
  replace r3a := r3a.on b18
  replace r3b := r3b.on b18
  replace r4 := r4.on b18
  replace r5 := r5.on b18
  replace r6a := r6a.on b18
  replace r6b := r6b.on b18
  replace r7 := r7.on b18
  replace r8 := r8.on b18
  replace Cw := Cw.on b18
  replace Cg := Cg.on b18
  go_wp2_with (fail)
  refine (toByteS_own p0 n0 q0 xs0 _ hn0 hx0 (in_below h0 k18)).mono ?_
  rintro e w19 ⟨pr9, cr9, rfl, r9, b19⟩
  have k19 : Below w.heap.size w w19 := below_on k18 b19
  have z19 := b19.size
  replace r1 := r1.on b19
  replace r2 := r2.on b19
  replace r3a := r3a.on b19
  replace r3b := r3b.on b19
  replace r4 := r4.on b19
  replace r5 := r5.on b19
  replace r6a := r6a.on b19
  replace r6b := r6b.on b19
  replace r7 := r7.on b19
  replace r8 := r8.on b19
  replace Cw := Cw.on b19
  replace Cg := Cg.on b19
  go_wp2_with (fail)
  refine (toByteS_own p1 n1 q1 xs1 _ hn1 hx1 (in_below h1 k19)).mono ?_
  rintro e w20 ⟨pr10, cr10, rfl, r10, b20⟩
  have k20 : Below w.heap.size w w20 := below_on k19 b20
  have z20 := b20.size
  replace r1 := r1.on b20
  replace r2 := r2.on b20
  replace r3a := r3a.on b20
  replace r3b := r3b.on b20
  replace r4 := r4.on b20
  replace r5 := r5.on b20
  replace r6a := r6a.on b20
  replace r6b := r6b.on b20
  replace r7 := r7.on b20
  replace r8 := r8.on b20
  replace r9 := r9.on b20
  replace Cw := Cw.on b20
  replace Cg := Cg.on b20
  go_wp2_with (fail)
  refine (CI pr9 pr10 cr9 cr10 _ (hE.on k20) r9.bytes r10.bytes).mono ?_
  rintro e w21 ⟨pr11a, cr11a, qar11, car11, qbr11, cbr11, pr11b, cr11b, qcr11, ccr11, qdr11, cdr11, kkr11, rfl, r11a, r11b, qr11, b21⟩
  have k21 : Below w.heap.size w w21 := below_on k20 b21
  have z21 := b21.size
  replace r1 := r1.on b21
  replace r2 := r2.on b21
  replace r3a := r3a.on b21
  replace r3b := r3b.on b21
  replace r4 := r4.on b21
  replace r5 := r5.on b21
  replace r6a := r6a.on b21
  replace r6b := r6b.on b21
  replace r7 := r7.on b21
  replace r8 := r8.on b21
  replace r9 := r9.on b21
  replace r10 := r10.on b21
  replace Cw := Cw.on b21
  replace Cg := Cg.on b21
  obtain ⟨w22, hw22⟩ : ∃ X, X = w21.alloc (.cells #[.slice pr11a N0 cr11a, .int .i64 0, .int .i64 0, .slice qar11 0 car11, .int .i64 0, .slice qbr11 0 cbr11, .int .i64 0, .slice pr11b M0 cr11b, .int .i64 0, .slice qcr11 0 ccr11, .slice qdr11 0 cdr11, .slice none 0 0, .slice none 0 0] 32) := ⟨_, rfl⟩
  have b22 : Below w21.heap.size w21 w22 := by rw [hw22]; exact made_below _ _ (Below.refl _ _)
  have Ch : Cells w22 w21.heap.size #[.slice pr11a N0 cr11a, .int .i64 0, .int .i64 0, .slice qar11 0 car11, .int .i64 0, .slice qbr11 0 cbr11, .int .i64 0, .slice pr11b M0 cr11b, .int .i64 0, .slice qcr11 0 ccr11, .slice qdr11 0 cdr11, .slice none 0 0, .slice none 0 0] := by rw [hw22]; exact Cells.made _ _ _
  replace hw22 : Hid (w21.alloc (.cells #[.slice pr11a N0 cr11a, .int .i64 0, .int .i64 0, .slice qar11 0 car11, .int .i64 0, .slice qbr11 0 cbr11, .int .i64 0, .slice pr11b M0 cr11b, .int .i64 0, .slice qcr11 0 ccr11, .slice qdr11 0 cdr11, .slice none 0 0, .slice none 0 0] 32) = w22) := hw22.symm
  have k22 : Below w.heap.size w w22 := below_on k21 b22
  have z22 := b22.size
  replace r1 := r1.on b22
  replace r2 := r2.on b22
  replace r3a := r3a.on b22
  replace r3b := r3b.on b22
  replace r4 := r4.on b22
  replace r5 := r5.on b22
  replace r6a := r6a.on b22
  replace r6b := r6b.on b22
  replace r7 := r7.on b22
  replace r8 := r8.on b22
  replace r9 := r9.on b22
  replace r10 := r10.on b22
  replace r11a := r11a.on b22
  replace r11b := r11b.on b22
  replace Cw := Cw.on b22
  replace Cg := Cg.on b22
  have lh0 : w22.cell? ⟨w21.heap.size, 0, none⟩ = some (.slice pr11a N0 cr11a) := (Ch.2 0).1
  have lh1 : w22.cell? ⟨w21.heap.size, 1, none⟩ = some (.int .i64 0) := (Ch.2 1).1
  have lh2 : w22.cell? ⟨w21.heap.size, 2, none⟩ = some (.int .i64 0) := (Ch.2 2).1
  have lh3 : w22.cell? ⟨w21.heap.size, 3, none⟩ = some (.slice qar11 0 car11) := (Ch.2 3).1
  have lh4 : w22.cell? ⟨w21.heap.size, 4, none⟩ = some (.int .i64 0) := (Ch.2 4).1
  have lh5 : w22.cell? ⟨w21.heap.size, 5, none⟩ = some (.slice qbr11 0 cbr11) := (Ch.2 5).1
  have lh6 : w22.cell? ⟨w21.heap.size, 6, none⟩ = some (.int .i64 0) := (Ch.2 6).1
  have lh7 : w22.cell? ⟨w21.heap.size, 7, none⟩ = some (.slice pr11b M0 cr11b) := (Ch.2 7).1
  have lh8 : w22.cell? ⟨w21.heap.size, 8, none⟩ = some (.int .i64 0) := (Ch.2 8).1
  have lh9 : w22.cell? ⟨w21.heap.size, 9, none⟩ = some (.slice qcr11 0 ccr11) := (Ch.2 9).1
  have lh10 : w22.cell? ⟨w21.heap.size, 10, none⟩ = some (.slice qdr11 0 cdr11) := (Ch.2 10).1
  have lh11 : w22.cell? ⟨w21.heap.size, 11, none⟩ = some (.slice none 0 0) := (Ch.2 11).1
  have lh12 : w22.cell? ⟨w21.heap.size, 12, none⟩ = some (.slice none 0 0) := (Ch.2 12).1
  have lw0 : w22.cell? ⟨Bw, 0, none⟩ = some (.slice pr3a N0 cr3a) := (Cw.2 0).1
  have lw1 : w22.cell? ⟨Bw, 1, none⟩ = some (.int .i64 0) := (Cw.2 1).1
  have lw2 : w22.cell? ⟨Bw, 2, none⟩ = some (.int .i64 0) := (Cw.2 2).1
  have lw3 : w22.cell? ⟨Bw, 3, none⟩ = some (.slice qar3 0 car3) := (Cw.2 3).1
  have lw4 : w22.cell? ⟨Bw, 4, none⟩ = some (.int .i64 0) := (Cw.2 4).1
  have lw5 : w22.cell? ⟨Bw, 5, none⟩ = some (.slice qbr3 0 cbr3) := (Cw.2 5).1
  have lw6 : w22.cell? ⟨Bw, 6, none⟩ = some (.int .i64 0) := (Cw.2 6).1
  have lw7 : w22.cell? ⟨Bw, 7, none⟩ = some (.slice pr3b M0 cr3b) := (Cw.2 7).1
  have lw8 : w22.cell? ⟨Bw, 8, none⟩ = some (.int .i64 0) := (Cw.2 8).1
  have lw9 : w22.cell? ⟨Bw, 9, none⟩ = some (.slice qcr3 0 ccr3) := (Cw.2 9).1
  have lw10 : w22.cell? ⟨Bw, 10, none⟩ = some (.slice qdr3 0 cdr3) := (Cw.2 10).1
  have lw11 : w22.cell? ⟨Bw, 11, none⟩ = some (.slice none 0 0) := (Cw.2 11).1
  have lw12 : w22.cell? ⟨Bw, 12, none⟩ = some (.slice none 0 0) := (Cw.2 12).1
  go_wp2_with (rw [hw22.out])
  clear hw22
  obtain ⟨Bh, hBh⟩ : ∃ B, B = w21.heap.size := ⟨_, rfl⟩
  have vh : w21.heap.size ≤ Bh ∧ Bh < w22.heap.size := by rw [hBh]; exact ⟨Nat.le_refl _, Ch.1⟩
  rw [← hBh] at Ch lh0 lh1 lh2 lh3 lh4 lh5 lh6 lh7 lh8 lh9 lh10 lh11 lh12 ⊢
  clear hBh
  clear lh0 lh1 lh2 lh3 lh4 lh5 lh6 lh7 lh8 lh9 lh10 lh11 lh12 lw0 lw1 lw2 lw3 lw4 lw5 lw6 lw7 lw8 lw9 lw10 lw11 lw12
  refine (eqWorld_new pr11a qar11 qbr11 pr11b qcr11 qdr11 pr3a qar3 qbr3 pr3b qcr3 qdr3 N0 M0 cr11a car11 cbr11 cr11b ccr11 cdr11 cr3a car3 cbr3 cr3b ccr3 cdr3   X0 Y0 _ hN0 hX0 hM0 hY0 hB0 r11a.bytes r3a.bytes r11b.bytes r3b.bytes).mono ?_
  rintro e w23 ⟨rfl, b23⟩
  have k23 : Below w.heap.size w w23 := below_on k22 b23
  have z23 := b23.size
  replace r1 := r1.on b23
  replace r2 := r2.on b23
  replace r3a := r3a.on b23
  replace r3b := r3b.on b23
  replace r4 := r4.on b23
  replace r5 := r5.on b23
  replace r6a := r6a.on b23
  replace r6b := r6b.on b23
  replace r7 := r7.on b23
  replace r8 := r8.on b23
  replace r9 := r9.on b23
  replace r10 := r10.on b23
  replace r11a := r11a.on b23
  replace r11b := r11b.on b23
  replace Cw := Cw.on b23
  replace Cg := Cg.on b23
  replace Ch := Ch.on b23
  have lg0 : w23.cell? ⟨Bg, 0, none⟩ = some (.slice pr6a N0 cr6a) := (Cg.2 0).1
  have lg1 : w23.cell? ⟨Bg, 1, none⟩ = some (.int .i64 0) := (Cg.2 1).1
  have lg2 : w23.cell? ⟨Bg, 2, none⟩ = some (.int .i64 0) := (Cg.2 2).1
  have lg3 : w23.cell? ⟨Bg, 3, none⟩ = some (.slice qar6 0 car6) := (Cg.2 3).1
  have lg4 : w23.cell? ⟨Bg, 4, none⟩ = some (.int .i64 0) := (Cg.2 4).1
  have lg5 : w23.cell? ⟨Bg, 5, none⟩ = some (.slice qbr6 0 cbr6) := (Cg.2 5).1
  have lg6 : w23.cell? ⟨Bg, 6, none⟩ = some (.int .i64 0) := (Cg.2 6).1
  have lg7 : w23.cell? ⟨Bg, 7, none⟩ = some (.slice pr6b M0 cr6b) := (Cg.2 7).1
  have lg8 : w23.cell? ⟨Bg, 8, none⟩ = some (.int .i64 0) := (Cg.2 8).1
  have lg9 : w23.cell? ⟨Bg, 9, none⟩ = some (.slice qcr6 0 ccr6) := (Cg.2 9).1
  have lg10 : w23.cell? ⟨Bg, 10, none⟩ = some (.slice qdr6 0 cdr6) := (Cg.2 10).1
  have lg11 : w23.cell? ⟨Bg, 11, none⟩ = some (.slice none 0 0) := (Cg.2 11).1
  have lg12 : w23.cell? ⟨Bg, 12, none⟩ = some (.slice none 0 0) := (Cg.2 12).1
  go_wp2_with (fail)
  clear lg0 lg1 lg2 lg3 lg4 lg5 lg6 lg7 lg8 lg9 lg10 lg11 lg12
  refine (heldWorld_new pr6a qar6 qbr6 pr6b qcr6 qdr6 N0 M0 cr6a car6 cbr6 cr6b ccr6 cdr6 1 _ hN0 hM0 (by omega) (by omega) r6a.bytes r6b.bytes hNM).mono ?_
  rintro e w24 ⟨rfl, b24⟩
  have k24 : Below w.heap.size w w24 := below_on k23 b24
  have z24 := b24.size
  replace r1 := r1.on b24
  replace r2 := r2.on b24
  replace r3a := r3a.on b24
  replace r3b := r3b.on b24
  replace r4 := r4.on b24
  replace r5 := r5.on b24
  replace r6a := r6a.on b24
  replace r6b := r6b.on b24
  replace r7 := r7.on b24
  replace r8 := r8.on b24
  replace r9 := r9.on b24
  replace r10 := r10.on b24
  replace r11a := r11a.on b24
  replace r11b := r11b.on b24
  replace Cw := Cw.on b24
  replace Cg := Cg.on b24
  replace Ch := Ch.on b24
  go_wp2_with (fail)
  go_ret
  exact ⟨rfl, k24⟩

theorem worldNew_law (p0 p1 : Option Addr) (n0 q0 n1 q1 : Nat) (xs0 xs1 : List Int) (w : World) (hE : ErrTab w) (hx0 : xs0.length = n0) (h0 : BytesIn w p0 n0 xs0) (hx1 : xs1.length = n1) (h1 : BytesIn w p1 n1 xs1) (hb1 : ∀ x ∈ xs1, 0 ≤ x ∧ x < 256) :
    Calls Tryz.prog 3 #[.slice p0 n0 q0, .slice p1 n1 q1] w fun e w' => e = .returned (.bool true) ∧ Below w.heap.size w w' := by
  by_cases hn0 : n0 ≤ 1048576
  · by_cases hn1 : n1 ≤ 1048576
    · exact worldNew_small p0 p1 n0 q0 n1 q1 xs0 xs1 w hn0 hn1 hE hx0 h0 hx1 h1 hb1
    · have d0 : ¬ (1048576 : Int) < (n0 : Int) := by omega
      have d1 : (1048576 : Int) < (n1 : Int) := by omega
      clear hx0 h0 hx1 h1 hb1 hE
      go_enter Tryz.func3, Tryz.ntmps3
      go_wp2
      go_ret
      exact ⟨rfl, Below.refl _ _⟩
  · have d0 : (1048576 : Int) < (n0 : Int) := by omega
    clear hx0 h0 hx1 h1 hb1 hE
    go_enter Tryz.func3, Tryz.ntmps3
    go_wp2
    go_ret
    exact ⟨rfl, Below.refl _ _⟩

end Go.Proofs.YthfnechcddmjkaaGreatDoor
