/-
  A new world, the program's side: an empty book is played, a new post is right, of lists of none all are right.
  A new post, a new world: they are right, for the program and for the specification.
  Copies of a new post: a list of none, a book of no bytes of one's own.
  A new world: what WldD proves is said in its theorems; conditions: each theorem's own.
-/
import Derived.Test.YthfnechcddmjkaaGreatDoorPar09
import Derived.Test.YthfnechcddmjkaaGreatDoorPar11
import Derived.Test.YthfnechcddmjkaaGreatDoorPar19
import Derived.Test.YthfnechcddmjkaaGreatDoorPar07
import Derived.Test.YthfnechcddmjkaaGreatDoorPar18
import Derived.Test.YthfnechcddmjkaaGreatDoorPar20
import Derived.Deep.RegionHeld3
import Derived.Test.YthfnechcddmjkaaGreatDoorPar16
namespace Go.Proofs.YthfnechcddmjkaaGreatDoor
open Go.RowKit
set_option maxRecDepth 100000

def ErrTab (w : World) : Prop := w.cell? ⟨0, 0, none⟩ = some (.iface 232 (.agg #[.pointer (some ⟨3, 170, none⟩)]))
theorem ErrTab.on {w w' : World} (h : ErrTab w) (b : Below w.heap.size w w') : ErrTab w' := (b.cell (p := ⟨0, 0, none⟩) (World.block_lt_of_cell? w _ h)).trans h
set_option maxHeartbeats 4000000 in
theorem play_nil (w : World) (hE : ErrTab w) : Calls Tryz.prog 107 #[.slice none 0 0] w fun e w' => e = .returned (.tuple #[.slice none 0 0, .int .i64 0, .int .i64 0]) ∧ Below w.heap.size w w' := by
  obtain ⟨W1, hW1⟩ : ∃ X, X = w.alloc (.cells #[.slice none 0 0, .int .i64 0] 164) := ⟨_, rfl⟩
  have b1 : Below w.heap.size w W1 := by rw [hW1]; exact (Below.refl _ _).alloc (Nat.le_refl _) _
  have C1 : Cells W1 w.heap.size #[.slice none 0 0, .int .i64 0] := by rw [hW1]; exact Cells.made _ _ _
  obtain ⟨W2, hW2⟩ : ∃ X, X = W1.alloc (.cells #[.int .i64 0] 166) := ⟨_, rfl⟩
  have b2 : Below W1.heap.size W1 W2 := by rw [hW2]; exact (Below.refl _ _).alloc (Nat.le_refl _) _
  have C2 : Cells W2 W1.heap.size #[.int .i64 0] := by rw [hW2]; exact Cells.made _ _ _
  have k2 := below_on b1 b2
  have hB1 := C1.1
  replace C1 := C1.on b2
  have AH := as_hit 0 W1.heap.size (.int .i64 0) W2 (hE.on k2) C2
  replace hW1 : Hid (w.alloc (.cells #[.slice none 0 0, .int .i64 0] 164) = W1) := hW1.symm
  replace hW2 : Hid (W1.alloc (.cells #[.int .i64 0] 166) = W2) := hW2.symm
  have z1 := b1.size
  go_enter Tryz.func107, Tryz.ntmps107
  go_wp2_with (first | rw [hW1.out] | rw [hW2.out])
  refine (lineAt_far none 0 0 0 _ (by omega) (by omega) (.inr (by omega))).mono ?_
  rintro e w1 ⟨rfl, rfl⟩
  go_wp2_with (fail)
  refine wp_loop_rounds 1 ?_
  rw [rounds_succ]
  go_wp2_with (fail)
  refine AH.mono ?_
  rintro e w3 ⟨rfl, b3, r3⟩
  have m0 : w3.cell? ⟨w.heap.size, 0, none⟩ = some (.slice none 0 0) := (b3.cell (p := ⟨w.heap.size, 0, none⟩) hB1).trans (C1.2 0).1
  have m1 : w3.cell? ⟨w.heap.size, 1, none⟩ = some (.int .i64 0) := (b3.cell (p := ⟨w.heap.size, 1, none⟩) hB1).trans (C1.2 1).1
  have k3 : Below w.heap.size w w3 := k2.trans (b3.mono z1)
  clear AH C1 C2 hE
  go_wp2_with (fail)
  go_region
  go_wp2_with (fail)
  refine bodyPost_ret (v := .tuple #[.slice none 0 0, .int .i64 0, .int .i64 0]) ?_ rfl ⟨rfl, k3.drew⟩
  simp only [results, Tryz.f107]
  go_simp
theorem equalF_nil (f : Value) (w : World) : Calls Tryz.prog 108 #[.slice none 0 0, .slice none 0 0, f] w fun e w' => e = .returned (.bool true) ∧ w' = w := by
  go_enter Tryz.func108, Tryz.ntmps108
  go_wp2_with (fail)
  refine wp_loop_rounds 1 ?_
  rw [rounds_succ]
  go_wp2_with (fail)
  go_ret
  exact ⟨rfl, rfl⟩
theorem indexW_nil (f : Value) (w : World) : Calls Tryz.prog 122 #[.slice none 0 0, f] w fun e w' => e = .returned (.int .i64 (-1)) ∧ w' = w := by
  go_enter Tryz.func122, Tryz.ntmps122
  go_wp2_with (fail)
  refine wp_loop_rounds 1 ?_
  rw [rounds_succ]
  go_wp2_with (fail)
  go_ret
  exact ⟨rfl, rfl⟩
theorem indexS_nil (f : Value) (w : World) : Calls Tryz.prog 125 #[.slice none 0 0, f] w fun e w' => e = .returned (.int .i64 (-1)) ∧ w' = w := by
  go_enter Tryz.func125, Tryz.ntmps125
  go_wp2_with (fail)
  refine wp_loop_rounds 1 ?_
  rw [rounds_succ]
  go_wp2_with (fail)
  go_ret
  exact ⟨rfl, rfl⟩
theorem containsW_nil (f : Value) (w : World) : Calls Tryz.prog 96 #[.slice none 0 0, f] w fun e w' => e = .returned (.bool false) ∧ w' = w := by
  go_enter Tryz.func96, Tryz.ntmps96
  go_wp2_with (fail)
  refine (indexW_nil _ _).mono ?_
  rintro e w1 ⟨rfl, rfl⟩
  go_wp2_with (fail)
  go_ret
  exact ⟨rfl, rfl⟩
theorem containsS_nil (f : Value) (w : World) : Calls Tryz.prog 100 #[.slice none 0 0, f] w fun e w' => e = .returned (.bool false) ∧ w' = w := by
  go_enter Tryz.func100, Tryz.ntmps100
  go_wp2_with (fail)
  refine (indexS_nil _ _).mono ?_
  rintro e w1 ⟨rfl, rfl⟩
  go_wp2_with (fail)
  go_ret
  exact ⟨rfl, rfl⟩
theorem allAreW_nil (f : Value) (w : World) (hf : f.oneCell' = true) : Calls Tryz.prog 56 #[.slice none 0 0, f] w fun e w' => e = .returned (.bool true) ∧ Below w.heap.size w w' := by
  have kA : ∀ o, Below w.heap.size w (w.alloc o) := fun o => (Below.refl _ _).alloc (Nat.le_refl _) _
  go_enter Tryz.func56, Tryz.ntmps56
  go_wp2_with (fail)
  refine (containsW_nil _ _).mono ?_
  rintro e w1 ⟨rfl, rfl⟩
  go_wp2_with (fail)
  go_ret
  exact ⟨rfl, kA _⟩
theorem allAreS_nil (f : Value) (w : World) (hf : f.oneCell' = true) : Calls Tryz.prog 58 #[.slice none 0 0, f] w fun e w' => e = .returned (.bool true) ∧ Below w.heap.size w w' := by
  have kA : ∀ o, Below w.heap.size w (w.alloc o) := fun o => (Below.refl _ _).alloc (Nat.le_refl _) _
  go_enter Tryz.func58, Tryz.ntmps58
  go_wp2_with (fail)
  refine (containsS_nil _ _).mono ?_
  rintro e w1 ⟨rfl, rfl⟩
  go_wp2_with (fail)
  go_ret
  exact ⟨rfl, kA _⟩
end Go.Proofs.YthfnechcddmjkaaGreatDoor

namespace Go.Proofs.YthfnechcddmjkaaGreatDoor
open Go.RowKit
set_option maxRecDepth 100000

theorem qB_nil : qB [] = true := qB_true ⟨Nat.zero_le _, fun _ hi => absurd hi (Nat.not_lt_zero _)⟩
theorem items_nil (w : World) (p : Option Addr) : ItemsIn w p 0 [] := fun h => absurd h (Nat.lt_irrefl 0)
theorem epochOk_zero (w : World) : Calls Tryz.prog 55 #[.int .i64 0] w fun e w' => e = .returned (.bool true) ∧ w' = w := by
  go_enter Tryz.func55, Tryz.ntmps55
  go_wp2_with (fail)
  go_ret
  exact ⟨rfl, rfl⟩
theorem dueOk_zero (w : World) : Calls Tryz.prog 106 #[.int .i64 0] w fun e w' => e = .returned (.bool true) ∧ w' = w := (dueOk_any 0 w).mono fun e w' ⟨a, b⟩ => ⟨by rw [a]; rfl, b⟩
theorem in_zero (hi : Int) (h : 0 ≤ hi) (w : World) : Calls Tryz.prog 51 #[.int .i64 0, .int .i64 0, .int .i64 hi] w fun e w' => e = .returned (.bool true) ∧ w' = w := (l1In_any 0 0 hi w).mono fun e w' ⟨a, b⟩ => ⟨by rw [a, decide_eq_true ⟨Int.le_refl _, h⟩], b⟩
theorem implPostOk_new (w : World) (hE : ErrTab w) : Calls Tryz.prog 61 #[.agg #[.slice none 0 0, .int .i64 0, .slice none 0 0, .int .i64 0]] w fun e w' => e = .returned (.bool true) ∧ Below w.heap.size w w' := by
  obtain ⟨W, hW⟩ : ∃ W, W = w.alloc (.cells #[.slice none 0 0, .int .i64 0, .slice none 0 0, .int .i64 0] 25) := ⟨_, rfl⟩
  have kA : Below w.heap.size w W := by rw [hW]; exact (Below.refl _ _).alloc (Nat.le_refl _) _
  have C0 : Cells W w.heap.size #[.slice none 0 0, .int .i64 0, .slice none 0 0, .int .i64 0] := by rw [hW]; exact Cells.made _ _ _
  have l0 : W.cell? ⟨w.heap.size, 0, none⟩ = some (.slice none 0 0) := (C0.2 0).1
  have l1 : W.cell? ⟨w.heap.size, 1, none⟩ = some (.int .i64 0) := (C0.2 1).1
  have l2 : W.cell? ⟨w.heap.size, 2, none⟩ = some (.slice none 0 0) := (C0.2 2).1
  have l3 : W.cell? ⟨w.heap.size, 3, none⟩ = some (.int .i64 0) := (C0.2 3).1
  replace hW : Hid (w.alloc (.cells #[.slice none 0 0, .int .i64 0, .slice none 0 0, .int .i64 0] 25) = W) := hW.symm
  have CQ := implQueueOkW_any none 0 0 [] W (by omega) rfl (items_nil _ _) (by simp)
  rw [qB_nil] at CQ
  go_enter Tryz.func61, Tryz.ntmps61
  go_wp2_with (rw [hW.out])
  refine CQ.mono ?_
  rintro e w1 ⟨rfl, b1⟩
  have k1 := below_on kA b1
  replace C0 := C0.on b1
  clear l0 l1 l2 l3 CQ hW
  have l0 : w1.cell? ⟨w.heap.size, 0, none⟩ = some (.slice none 0 0) := (C0.2 0).1
  have l1 : w1.cell? ⟨w.heap.size, 1, none⟩ = some (.int .i64 0) := (C0.2 1).1
  have l2 : w1.cell? ⟨w.heap.size, 2, none⟩ = some (.slice none 0 0) := (C0.2 2).1
  have l3 : w1.cell? ⟨w.heap.size, 3, none⟩ = some (.int .i64 0) := (C0.2 3).1
  go_wp2_with (fail)
  refine (dueOk_zero _).mono ?_
  rintro e w2 ⟨rfl, rfl⟩
  go_wp2_with (fail)
  refine (play_nil _ (hE.on k1)).mono ?_
  rintro e w3 ⟨rfl, b3⟩
  have k3 := below_on k1 b3
  replace C0 := C0.on b3
  clear l0 l1 l2 l3
  have l0 : w3.cell? ⟨w.heap.size, 0, none⟩ = some (.slice none 0 0) := (C0.2 0).1
  have l1 : w3.cell? ⟨w.heap.size, 1, none⟩ = some (.int .i64 0) := (C0.2 1).1
  have l2 : w3.cell? ⟨w.heap.size, 2, none⟩ = some (.slice none 0 0) := (C0.2 2).1
  have l3 : w3.cell? ⟨w.heap.size, 3, none⟩ = some (.int .i64 0) := (C0.2 3).1
  go_wp2_with (fail)
  refine (equalF_nil _ _).mono ?_
  rintro e w4 ⟨rfl, rfl⟩
  go_wp2_with (fail)
  go_ret
  exact ⟨rfl, k3⟩
theorem specPostOk_new (w : World) : Calls Tryz.prog 52 #[.agg #[.slice none 0 0, .int .i64 0, .slice none 0 0, .int .i64 0]] w fun e w' => e = .returned (.bool true) ∧ Below w.heap.size w w' := by
  obtain ⟨W, hW⟩ : ∃ W, W = w.alloc (.cells #[.slice none 0 0, .int .i64 0, .slice none 0 0, .int .i64 0] 25) := ⟨_, rfl⟩
  have kA : Below w.heap.size w W := by rw [hW]; exact (Below.refl _ _).alloc (Nat.le_refl _) _
  have C0 : Cells W w.heap.size #[.slice none 0 0, .int .i64 0, .slice none 0 0, .int .i64 0] := by rw [hW]; exact Cells.made _ _ _
  have l0 : W.cell? ⟨w.heap.size, 0, none⟩ = some (.slice none 0 0) := (C0.2 0).1
  have l1 : W.cell? ⟨w.heap.size, 1, none⟩ = some (.int .i64 0) := (C0.2 1).1
  have l2 : W.cell? ⟨w.heap.size, 2, none⟩ = some (.slice none 0 0) := (C0.2 2).1
  have l3 : W.cell? ⟨w.heap.size, 3, none⟩ = some (.int .i64 0) := (C0.2 3).1
  replace hW : Hid (w.alloc (.cells #[.slice none 0 0, .int .i64 0, .slice none 0 0, .int .i64 0] 25) = W) := hW.symm
  have CQ := specQueueOkW_any none 0 0 [] W (by omega) rfl (items_nil _ _) (by simp)
  rw [qB_nil] at CQ
  go_enter Tryz.func52, Tryz.ntmps52
  go_wp2_with (rw [hW.out])
  refine CQ.mono ?_
  rintro e w1 ⟨rfl, b1⟩
  have k1 := below_on kA b1
  replace C0 := C0.on b1
  clear l0 l1 l2 l3 CQ hW
  have l0 : w1.cell? ⟨w.heap.size, 0, none⟩ = some (.slice none 0 0) := (C0.2 0).1
  have l1 : w1.cell? ⟨w.heap.size, 1, none⟩ = some (.int .i64 0) := (C0.2 1).1
  have l2 : w1.cell? ⟨w.heap.size, 2, none⟩ = some (.slice none 0 0) := (C0.2 2).1
  have l3 : w1.cell? ⟨w.heap.size, 3, none⟩ = some (.int .i64 0) := (C0.2 3).1
  go_wp2_with (fail)
  refine (in_zero 100000 (by omega) _).mono ?_
  rintro e w2 ⟨rfl, rfl⟩
  go_wp2_with (fail)
  refine (in_zero 0 (by omega) _).mono ?_
  rintro e w2 ⟨rfl, rfl⟩
  go_wp2_with (fail)
  refine (specPlay_nil _).mono ?_
  rintro e w3 ⟨pq, cq, rfl, b3⟩
  have k3 := below_on k1 b3
  replace C0 := C0.on b3
  clear l0 l1 l2 l3
  have l0 : w3.cell? ⟨w.heap.size, 0, none⟩ = some (.slice none 0 0) := (C0.2 0).1
  have l1 : w3.cell? ⟨w.heap.size, 1, none⟩ = some (.int .i64 0) := (C0.2 1).1
  have l2 : w3.cell? ⟨w.heap.size, 2, none⟩ = some (.slice none 0 0) := (C0.2 2).1
  have l3 : w3.cell? ⟨w.heap.size, 3, none⟩ = some (.int .i64 0) := (C0.2 3).1
  go_wp2_with (fail)
  refine (queues_nil _ _ _).mono ?_
  rintro e w4 ⟨rfl, rfl⟩
  go_wp2_with (fail)
  go_ret
  exact ⟨rfl, k3⟩
set_option maxHeartbeats 4000000 in
theorem implWorldOk_no (p q : Option Addr) (n c m d : Nat) (w : World) (hne : ¬ n = 32) : Calls Tryz.prog 22 #[.agg #[.slice p n c, .int .i64 0, .int .i64 0, .slice none 0 0, .int .i64 0, .slice none 0 0, .int .i64 0, .slice q m d, .int .i64 0, .slice none 0 0, .slice none 0 0, .slice none 0 0, .slice none 0 0]] w fun e w' => e = .returned (.bool false) ∧ Below w.heap.size w w' := by
  obtain ⟨W, hW⟩ : ∃ W, W = w.alloc (.cells #[.slice p n c, .int .i64 0, .int .i64 0, .slice none 0 0, .int .i64 0, .slice none 0 0, .int .i64 0, .slice q m d, .int .i64 0, .slice none 0 0, .slice none 0 0, .slice none 0 0, .slice none 0 0] 32) := ⟨_, rfl⟩
  have kA : Below w.heap.size w W := by rw [hW]; exact (Below.refl _ _).alloc (Nat.le_refl _) _
  have C0 : Cells W w.heap.size #[.slice p n c, .int .i64 0, .int .i64 0, .slice none 0 0, .int .i64 0, .slice none 0 0, .int .i64 0, .slice q m d, .int .i64 0, .slice none 0 0, .slice none 0 0, .slice none 0 0, .slice none 0 0] := by rw [hW]; exact Cells.made _ _ _
  have l0 : W.cell? ⟨w.heap.size, 0, none⟩ = some (.slice p n c) := (C0.2 0).1
  have l1 : W.cell? ⟨w.heap.size, 1, none⟩ = some (.int .i64 0) := (C0.2 1).1
  have l2 : W.cell? ⟨w.heap.size, 2, none⟩ = some (.int .i64 0) := (C0.2 2).1
  have l3 : W.cell? ⟨w.heap.size, 3, none⟩ = some (.slice none 0 0) := (C0.2 3).1
  have l4 : W.cell? ⟨w.heap.size, 4, none⟩ = some (.int .i64 0) := (C0.2 4).1
  have l5 : W.cell? ⟨w.heap.size, 5, none⟩ = some (.slice none 0 0) := (C0.2 5).1
  have l6 : W.cell? ⟨w.heap.size, 6, none⟩ = some (.int .i64 0) := (C0.2 6).1
  have l7 : W.cell? ⟨w.heap.size, 7, none⟩ = some (.slice q m d) := (C0.2 7).1
  have l8 : W.cell? ⟨w.heap.size, 8, none⟩ = some (.int .i64 0) := (C0.2 8).1
  have l9 : W.cell? ⟨w.heap.size, 9, none⟩ = some (.slice none 0 0) := (C0.2 9).1
  have l10 : W.cell? ⟨w.heap.size, 10, none⟩ = some (.slice none 0 0) := (C0.2 10).1
  have l11 : W.cell? ⟨w.heap.size, 11, none⟩ = some (.slice none 0 0) := (C0.2 11).1
  have l12 : W.cell? ⟨w.heap.size, 12, none⟩ = some (.slice none 0 0) := (C0.2 12).1
  replace hW : Hid (w.alloc (.cells #[.slice p n c, .int .i64 0, .int .i64 0, .slice none 0 0, .int .i64 0, .slice none 0 0, .int .i64 0, .slice q m d, .int .i64 0, .slice none 0 0, .slice none 0 0, .slice none 0 0, .slice none 0 0] 32) = W) := hW.symm
  have g1 : ¬ (n : Int) = 32 := by omega
  go_enter Tryz.func22, Tryz.ntmps22
  go_wp2_with (rw [hW.out])
  go_ret
  exact ⟨rfl, kA⟩
set_option maxHeartbeats 4000000 in
theorem specWorldOk_no (p q : Option Addr) (n c m d : Nat) (w : World) (hne : ¬ n = 32) : Calls Tryz.prog 20 #[.agg #[.slice p n c, .int .i64 0, .int .i64 0, .slice none 0 0, .int .i64 0, .slice none 0 0, .int .i64 0, .slice q m d, .int .i64 0, .slice none 0 0, .slice none 0 0, .slice none 0 0, .slice none 0 0]] w fun e w' => e = .returned (.bool false) ∧ Below w.heap.size w w' := by
  obtain ⟨W, hW⟩ : ∃ W, W = w.alloc (.cells #[.slice p n c, .int .i64 0, .int .i64 0, .slice none 0 0, .int .i64 0, .slice none 0 0, .int .i64 0, .slice q m d, .int .i64 0, .slice none 0 0, .slice none 0 0, .slice none 0 0, .slice none 0 0] 32) := ⟨_, rfl⟩
  have kA : Below w.heap.size w W := by rw [hW]; exact (Below.refl _ _).alloc (Nat.le_refl _) _
  have C0 : Cells W w.heap.size #[.slice p n c, .int .i64 0, .int .i64 0, .slice none 0 0, .int .i64 0, .slice none 0 0, .int .i64 0, .slice q m d, .int .i64 0, .slice none 0 0, .slice none 0 0, .slice none 0 0, .slice none 0 0] := by rw [hW]; exact Cells.made _ _ _
  have l0 : W.cell? ⟨w.heap.size, 0, none⟩ = some (.slice p n c) := (C0.2 0).1
  have l1 : W.cell? ⟨w.heap.size, 1, none⟩ = some (.int .i64 0) := (C0.2 1).1
  have l2 : W.cell? ⟨w.heap.size, 2, none⟩ = some (.int .i64 0) := (C0.2 2).1
  have l3 : W.cell? ⟨w.heap.size, 3, none⟩ = some (.slice none 0 0) := (C0.2 3).1
  have l4 : W.cell? ⟨w.heap.size, 4, none⟩ = some (.int .i64 0) := (C0.2 4).1
  have l5 : W.cell? ⟨w.heap.size, 5, none⟩ = some (.slice none 0 0) := (C0.2 5).1
  have l6 : W.cell? ⟨w.heap.size, 6, none⟩ = some (.int .i64 0) := (C0.2 6).1
  have l7 : W.cell? ⟨w.heap.size, 7, none⟩ = some (.slice q m d) := (C0.2 7).1
  have l8 : W.cell? ⟨w.heap.size, 8, none⟩ = some (.int .i64 0) := (C0.2 8).1
  have l9 : W.cell? ⟨w.heap.size, 9, none⟩ = some (.slice none 0 0) := (C0.2 9).1
  have l10 : W.cell? ⟨w.heap.size, 10, none⟩ = some (.slice none 0 0) := (C0.2 10).1
  have l11 : W.cell? ⟨w.heap.size, 11, none⟩ = some (.slice none 0 0) := (C0.2 11).1
  have l12 : W.cell? ⟨w.heap.size, 12, none⟩ = some (.slice none 0 0) := (C0.2 12).1
  replace hW : Hid (w.alloc (.cells #[.slice p n c, .int .i64 0, .int .i64 0, .slice none 0 0, .int .i64 0, .slice none 0 0, .int .i64 0, .slice q m d, .int .i64 0, .slice none 0 0, .slice none 0 0, .slice none 0 0, .slice none 0 0] 32) = W) := hW.symm
  have g1 : ¬ (n : Int) = 32 := by omega
  go_enter Tryz.func20, Tryz.ntmps20
  go_wp2_with (rw [hW.out])
  go_ret
  exact ⟨rfl, kA⟩
set_option maxHeartbeats 4000000 in
theorem implWorldOk_32 (p q : Option Addr) (c m d : Nat) (ys : List Int) (w : World) (hE : ErrTab w) (hm : m ≤ 1048576) (hy : ys.length = m) (h : BytesIn w q m ys) (hb : ∀ x ∈ ys, 0 ≤ x ∧ x < 256) : Calls Tryz.prog 22 #[.agg #[.slice p 32 c, .int .i64 0, .int .i64 0, .slice none 0 0, .int .i64 0, .slice none 0 0, .int .i64 0, .slice q m d, .int .i64 0, .slice none 0 0, .slice none 0 0, .slice none 0 0, .slice none 0 0]] w fun e w' => e = .returned (.bool (decide (m = 32))) ∧ Below w.heap.size w w' := by
  obtain ⟨W, hW⟩ : ∃ W, W = w.alloc (.cells #[.slice p 32 c, .int .i64 0, .int .i64 0, .slice none 0 0, .int .i64 0, .slice none 0 0, .int .i64 0, .slice q m d, .int .i64 0, .slice none 0 0, .slice none 0 0, .slice none 0 0, .slice none 0 0] 32) := ⟨_, rfl⟩
  have kA : Below w.heap.size w W := by rw [hW]; exact (Below.refl _ _).alloc (Nat.le_refl _) _
  have C0 : Cells W w.heap.size #[.slice p 32 c, .int .i64 0, .int .i64 0, .slice none 0 0, .int .i64 0, .slice none 0 0, .int .i64 0, .slice q m d, .int .i64 0, .slice none 0 0, .slice none 0 0, .slice none 0 0, .slice none 0 0] := by rw [hW]; exact Cells.made _ _ _
  have l0 : W.cell? ⟨w.heap.size, 0, none⟩ = some (.slice p 32 c) := (C0.2 0).1
  have l1 : W.cell? ⟨w.heap.size, 1, none⟩ = some (.int .i64 0) := (C0.2 1).1
  have l2 : W.cell? ⟨w.heap.size, 2, none⟩ = some (.int .i64 0) := (C0.2 2).1
  have l3 : W.cell? ⟨w.heap.size, 3, none⟩ = some (.slice none 0 0) := (C0.2 3).1
  have l4 : W.cell? ⟨w.heap.size, 4, none⟩ = some (.int .i64 0) := (C0.2 4).1
  have l5 : W.cell? ⟨w.heap.size, 5, none⟩ = some (.slice none 0 0) := (C0.2 5).1
  have l6 : W.cell? ⟨w.heap.size, 6, none⟩ = some (.int .i64 0) := (C0.2 6).1
  have l7 : W.cell? ⟨w.heap.size, 7, none⟩ = some (.slice q m d) := (C0.2 7).1
  have l8 : W.cell? ⟨w.heap.size, 8, none⟩ = some (.int .i64 0) := (C0.2 8).1
  have l9 : W.cell? ⟨w.heap.size, 9, none⟩ = some (.slice none 0 0) := (C0.2 9).1
  have l10 : W.cell? ⟨w.heap.size, 10, none⟩ = some (.slice none 0 0) := (C0.2 10).1
  have l11 : W.cell? ⟨w.heap.size, 11, none⟩ = some (.slice none 0 0) := (C0.2 11).1
  have l12 : W.cell? ⟨w.heap.size, 12, none⟩ = some (.slice none 0 0) := (C0.2 12).1
  replace hW : Hid (w.alloc (.cells #[.slice p 32 c, .int .i64 0, .int .i64 0, .slice none 0 0, .int .i64 0, .slice none 0 0, .int .i64 0, .slice q m d, .int .i64 0, .slice none 0 0, .slice none 0 0, .slice none 0 0, .slice none 0 0] 32) = W) := hW.symm
  have CR := fun X (b : Below w.heap.size w X) => implReaderOk_any ⟨⟨q, m, d, ys⟩, 0, none, 0, 0, [], none, 0, 0, []⟩ X (newOk (by omega) hy (in_below h b) hb none none 0 0) (Nat.le_refl _)
  simp only [rB_new] at CR
  rw [show RdA.cells ⟨⟨q, m, d, ys⟩, 0, none, 0, 0, [], none, 0, 0, []⟩ = #[.slice q m d, .int .i64 0, .slice none 0 0, .slice none 0 0] from rfl] at CR
  generalize decide (m = 32) = R at CR ⊢
  clear h hb hy
  go_enter Tryz.func22, Tryz.ntmps22
  go_wp2_with (rw [hW.out])
  refine (epochOk_zero _).mono ?_
  rintro e w1 ⟨rfl, rfl⟩
  go_wp2_with (fail)
  refine (allAreW_nil _ _ rfl).mono ?_
  rintro e w2 ⟨rfl, b2⟩
  have k2 := below_on kA b2
  replace C0 := C0.on b2
  clear l0 l1 l2 l3 l4 l5 l6 l7 l8 l9 l10 l11 l12
  have l0 : w2.cell? ⟨w.heap.size, 0, none⟩ = some (.slice p 32 c) := (C0.2 0).1
  have l1 : w2.cell? ⟨w.heap.size, 1, none⟩ = some (.int .i64 0) := (C0.2 1).1
  have l2 : w2.cell? ⟨w.heap.size, 2, none⟩ = some (.int .i64 0) := (C0.2 2).1
  have l3 : w2.cell? ⟨w.heap.size, 3, none⟩ = some (.slice none 0 0) := (C0.2 3).1
  have l4 : w2.cell? ⟨w.heap.size, 4, none⟩ = some (.int .i64 0) := (C0.2 4).1
  have l5 : w2.cell? ⟨w.heap.size, 5, none⟩ = some (.slice none 0 0) := (C0.2 5).1
  have l6 : w2.cell? ⟨w.heap.size, 6, none⟩ = some (.int .i64 0) := (C0.2 6).1
  have l7 : w2.cell? ⟨w.heap.size, 7, none⟩ = some (.slice q m d) := (C0.2 7).1
  have l8 : w2.cell? ⟨w.heap.size, 8, none⟩ = some (.int .i64 0) := (C0.2 8).1
  have l9 : w2.cell? ⟨w.heap.size, 9, none⟩ = some (.slice none 0 0) := (C0.2 9).1
  have l10 : w2.cell? ⟨w.heap.size, 10, none⟩ = some (.slice none 0 0) := (C0.2 10).1
  have l11 : w2.cell? ⟨w.heap.size, 11, none⟩ = some (.slice none 0 0) := (C0.2 11).1
  have l12 : w2.cell? ⟨w.heap.size, 12, none⟩ = some (.slice none 0 0) := (C0.2 12).1
  go_wp2_with (fail)
  refine (allAreS_nil _ _ rfl).mono ?_
  rintro e w3 ⟨rfl, b3⟩
  have k3 := below_on k2 b3
  replace C0 := C0.on b3
  clear l0 l1 l2 l3 l4 l5 l6 l7 l8 l9 l10 l11 l12
  have l0 : w3.cell? ⟨w.heap.size, 0, none⟩ = some (.slice p 32 c) := (C0.2 0).1
  have l1 : w3.cell? ⟨w.heap.size, 1, none⟩ = some (.int .i64 0) := (C0.2 1).1
  have l2 : w3.cell? ⟨w.heap.size, 2, none⟩ = some (.int .i64 0) := (C0.2 2).1
  have l3 : w3.cell? ⟨w.heap.size, 3, none⟩ = some (.slice none 0 0) := (C0.2 3).1
  have l4 : w3.cell? ⟨w.heap.size, 4, none⟩ = some (.int .i64 0) := (C0.2 4).1
  have l5 : w3.cell? ⟨w.heap.size, 5, none⟩ = some (.slice none 0 0) := (C0.2 5).1
  have l6 : w3.cell? ⟨w.heap.size, 6, none⟩ = some (.int .i64 0) := (C0.2 6).1
  have l7 : w3.cell? ⟨w.heap.size, 7, none⟩ = some (.slice q m d) := (C0.2 7).1
  have l8 : w3.cell? ⟨w.heap.size, 8, none⟩ = some (.int .i64 0) := (C0.2 8).1
  have l9 : w3.cell? ⟨w.heap.size, 9, none⟩ = some (.slice none 0 0) := (C0.2 9).1
  have l10 : w3.cell? ⟨w.heap.size, 10, none⟩ = some (.slice none 0 0) := (C0.2 10).1
  have l11 : w3.cell? ⟨w.heap.size, 11, none⟩ = some (.slice none 0 0) := (C0.2 11).1
  have l12 : w3.cell? ⟨w.heap.size, 12, none⟩ = some (.slice none 0 0) := (C0.2 12).1
  go_wp2_with (fail)
  refine (CR _ k3).mono ?_
  rintro e w4 ⟨rfl, b4⟩
  have k4 := below_on k3 b4
  replace C0 := C0.on b4
  clear l0 l1 l2 l3 l4 l5 l6 l7 l8 l9 l10 l11 l12
  have l0 : w4.cell? ⟨w.heap.size, 0, none⟩ = some (.slice p 32 c) := (C0.2 0).1
  have l1 : w4.cell? ⟨w.heap.size, 1, none⟩ = some (.int .i64 0) := (C0.2 1).1
  have l2 : w4.cell? ⟨w.heap.size, 2, none⟩ = some (.int .i64 0) := (C0.2 2).1
  have l3 : w4.cell? ⟨w.heap.size, 3, none⟩ = some (.slice none 0 0) := (C0.2 3).1
  have l4 : w4.cell? ⟨w.heap.size, 4, none⟩ = some (.int .i64 0) := (C0.2 4).1
  have l5 : w4.cell? ⟨w.heap.size, 5, none⟩ = some (.slice none 0 0) := (C0.2 5).1
  have l6 : w4.cell? ⟨w.heap.size, 6, none⟩ = some (.int .i64 0) := (C0.2 6).1
  have l7 : w4.cell? ⟨w.heap.size, 7, none⟩ = some (.slice q m d) := (C0.2 7).1
  have l8 : w4.cell? ⟨w.heap.size, 8, none⟩ = some (.int .i64 0) := (C0.2 8).1
  have l9 : w4.cell? ⟨w.heap.size, 9, none⟩ = some (.slice none 0 0) := (C0.2 9).1
  have l10 : w4.cell? ⟨w.heap.size, 10, none⟩ = some (.slice none 0 0) := (C0.2 10).1
  have l11 : w4.cell? ⟨w.heap.size, 11, none⟩ = some (.slice none 0 0) := (C0.2 11).1
  have l12 : w4.cell? ⟨w.heap.size, 12, none⟩ = some (.slice none 0 0) := (C0.2 12).1
  cases R
  · go_wp2_with (fail)
    go_ret
    exact ⟨rfl, k4⟩
  · go_wp2_with (fail)
    refine (implPostOk_new _ (hE.on k4)).mono ?_
    rintro e w5 ⟨rfl, b5⟩
    have k5 := below_on k4 b5
    go_wp2_with (fail)
    go_ret
    exact ⟨rfl, k5⟩
set_option maxHeartbeats 4000000 in
theorem specWorldOk_32 (p q : Option Addr) (c m d : Nat) (ys : List Int) (w : World) (hm : m ≤ 1048576) (hy : ys.length = m) (h : BytesIn w q m ys) (hb : ∀ x ∈ ys, 0 ≤ x ∧ x < 256) : Calls Tryz.prog 20 #[.agg #[.slice p 32 c, .int .i64 0, .int .i64 0, .slice none 0 0, .int .i64 0, .slice none 0 0, .int .i64 0, .slice q m d, .int .i64 0, .slice none 0 0, .slice none 0 0, .slice none 0 0, .slice none 0 0]] w fun e w' => e = .returned (.bool (decide (m = 32))) ∧ Below w.heap.size w w' := by
  obtain ⟨W, hW⟩ : ∃ W, W = w.alloc (.cells #[.slice p 32 c, .int .i64 0, .int .i64 0, .slice none 0 0, .int .i64 0, .slice none 0 0, .int .i64 0, .slice q m d, .int .i64 0, .slice none 0 0, .slice none 0 0, .slice none 0 0, .slice none 0 0] 32) := ⟨_, rfl⟩
  have kA : Below w.heap.size w W := by rw [hW]; exact (Below.refl _ _).alloc (Nat.le_refl _) _
  have C0 : Cells W w.heap.size #[.slice p 32 c, .int .i64 0, .int .i64 0, .slice none 0 0, .int .i64 0, .slice none 0 0, .int .i64 0, .slice q m d, .int .i64 0, .slice none 0 0, .slice none 0 0, .slice none 0 0, .slice none 0 0] := by rw [hW]; exact Cells.made _ _ _
  have l0 : W.cell? ⟨w.heap.size, 0, none⟩ = some (.slice p 32 c) := (C0.2 0).1
  have l1 : W.cell? ⟨w.heap.size, 1, none⟩ = some (.int .i64 0) := (C0.2 1).1
  have l2 : W.cell? ⟨w.heap.size, 2, none⟩ = some (.int .i64 0) := (C0.2 2).1
  have l3 : W.cell? ⟨w.heap.size, 3, none⟩ = some (.slice none 0 0) := (C0.2 3).1
  have l4 : W.cell? ⟨w.heap.size, 4, none⟩ = some (.int .i64 0) := (C0.2 4).1
  have l5 : W.cell? ⟨w.heap.size, 5, none⟩ = some (.slice none 0 0) := (C0.2 5).1
  have l6 : W.cell? ⟨w.heap.size, 6, none⟩ = some (.int .i64 0) := (C0.2 6).1
  have l7 : W.cell? ⟨w.heap.size, 7, none⟩ = some (.slice q m d) := (C0.2 7).1
  have l8 : W.cell? ⟨w.heap.size, 8, none⟩ = some (.int .i64 0) := (C0.2 8).1
  have l9 : W.cell? ⟨w.heap.size, 9, none⟩ = some (.slice none 0 0) := (C0.2 9).1
  have l10 : W.cell? ⟨w.heap.size, 10, none⟩ = some (.slice none 0 0) := (C0.2 10).1
  have l11 : W.cell? ⟨w.heap.size, 11, none⟩ = some (.slice none 0 0) := (C0.2 11).1
  have l12 : W.cell? ⟨w.heap.size, 12, none⟩ = some (.slice none 0 0) := (C0.2 12).1
  replace hW : Hid (w.alloc (.cells #[.slice p 32 c, .int .i64 0, .int .i64 0, .slice none 0 0, .int .i64 0, .slice none 0 0, .int .i64 0, .slice q m d, .int .i64 0, .slice none 0 0, .slice none 0 0, .slice none 0 0, .slice none 0 0] 32) = W) := hW.symm
  have CR := fun X (b : Below w.heap.size w X) => specReaderOk_any ⟨⟨q, m, d, ys⟩, 0, none, 0, 0, [], none, 0, 0, []⟩ X (newOk (by omega) hy (in_below h b) hb none none 0 0)
  simp only [rB_new] at CR
  rw [show RdA.cells ⟨⟨q, m, d, ys⟩, 0, none, 0, 0, [], none, 0, 0, []⟩ = #[.slice q m d, .int .i64 0, .slice none 0 0, .slice none 0 0] from rfl] at CR
  generalize decide (m = 32) = R at CR ⊢
  clear h hb hy
  go_enter Tryz.func20, Tryz.ntmps20
  go_wp2_with (rw [hW.out])
  refine (in_zero 12 (by omega) _).mono ?_
  rintro e w1 ⟨rfl, rfl⟩
  go_wp2_with (fail)
  refine (in_zero 40 (by omega) _).mono ?_
  rintro e w1 ⟨rfl, rfl⟩
  go_wp2_with (fail)
  refine (specPostOk_new _).mono ?_
  rintro e w2 ⟨rfl, b2⟩
  have k2 := below_on kA b2
  replace C0 := C0.on b2
  clear l0 l1 l2 l3 l4 l5 l6 l7 l8 l9 l10 l11 l12
  have l0 : w2.cell? ⟨w.heap.size, 0, none⟩ = some (.slice p 32 c) := (C0.2 0).1
  have l1 : w2.cell? ⟨w.heap.size, 1, none⟩ = some (.int .i64 0) := (C0.2 1).1
  have l2 : w2.cell? ⟨w.heap.size, 2, none⟩ = some (.int .i64 0) := (C0.2 2).1
  have l3 : w2.cell? ⟨w.heap.size, 3, none⟩ = some (.slice none 0 0) := (C0.2 3).1
  have l4 : w2.cell? ⟨w.heap.size, 4, none⟩ = some (.int .i64 0) := (C0.2 4).1
  have l5 : w2.cell? ⟨w.heap.size, 5, none⟩ = some (.slice none 0 0) := (C0.2 5).1
  have l6 : w2.cell? ⟨w.heap.size, 6, none⟩ = some (.int .i64 0) := (C0.2 6).1
  have l7 : w2.cell? ⟨w.heap.size, 7, none⟩ = some (.slice q m d) := (C0.2 7).1
  have l8 : w2.cell? ⟨w.heap.size, 8, none⟩ = some (.int .i64 0) := (C0.2 8).1
  have l9 : w2.cell? ⟨w.heap.size, 9, none⟩ = some (.slice none 0 0) := (C0.2 9).1
  have l10 : w2.cell? ⟨w.heap.size, 10, none⟩ = some (.slice none 0 0) := (C0.2 10).1
  have l11 : w2.cell? ⟨w.heap.size, 11, none⟩ = some (.slice none 0 0) := (C0.2 11).1
  have l12 : w2.cell? ⟨w.heap.size, 12, none⟩ = some (.slice none 0 0) := (C0.2 12).1
  go_wp2_with (fail)
  refine (CR _ k2).mono ?_
  rintro e w4 ⟨rfl, b4⟩
  have k4 := below_on k2 b4
  replace C0 := C0.on b4
  clear l0 l1 l2 l3 l4 l5 l6 l7 l8 l9 l10 l11 l12
  have l0 : w4.cell? ⟨w.heap.size, 0, none⟩ = some (.slice p 32 c) := (C0.2 0).1
  have l1 : w4.cell? ⟨w.heap.size, 1, none⟩ = some (.int .i64 0) := (C0.2 1).1
  have l2 : w4.cell? ⟨w.heap.size, 2, none⟩ = some (.int .i64 0) := (C0.2 2).1
  have l3 : w4.cell? ⟨w.heap.size, 3, none⟩ = some (.slice none 0 0) := (C0.2 3).1
  have l4 : w4.cell? ⟨w.heap.size, 4, none⟩ = some (.int .i64 0) := (C0.2 4).1
  have l5 : w4.cell? ⟨w.heap.size, 5, none⟩ = some (.slice none 0 0) := (C0.2 5).1
  have l6 : w4.cell? ⟨w.heap.size, 6, none⟩ = some (.int .i64 0) := (C0.2 6).1
  have l7 : w4.cell? ⟨w.heap.size, 7, none⟩ = some (.slice q m d) := (C0.2 7).1
  have l8 : w4.cell? ⟨w.heap.size, 8, none⟩ = some (.int .i64 0) := (C0.2 8).1
  have l9 : w4.cell? ⟨w.heap.size, 9, none⟩ = some (.slice none 0 0) := (C0.2 9).1
  have l10 : w4.cell? ⟨w.heap.size, 10, none⟩ = some (.slice none 0 0) := (C0.2 10).1
  have l11 : w4.cell? ⟨w.heap.size, 11, none⟩ = some (.slice none 0 0) := (C0.2 11).1
  have l12 : w4.cell? ⟨w.heap.size, 12, none⟩ = some (.slice none 0 0) := (C0.2 12).1
  cases R
  · go_wp2_with (fail)
    go_ret
    exact ⟨rfl, k4⟩
  · go_wp2_with (fail)
    refine (net_nil _).mono ?_
    rintro e w5 ⟨rfl, rfl⟩
    go_wp2_with (fail)
    refine wp_loop_rounds 1 ?_
    rw [rounds_succ]
    go_wp2_with (fail)
    go_ret
    exact ⟨rfl, k4⟩
end Go.Proofs.YthfnechcddmjkaaGreatDoor

namespace Go.Proofs.YthfnechcddmjkaaGreatDoor
open Go.RowKit
set_option maxRecDepth 100000

theorem buildP (w : World) (p q : Option Addr) (n c m d : Nat) (e u : Int) : (Instr.build 25 #[(0, .slice p n c), (1, .int .i64 e), (2, .slice q m d), (3, .int .i64 u)]).run Tryz.prog w = .ok (.agg #[.slice p n c, .int .i64 e, .slice q m d, .int .i64 u]) w := by kernel_rfl
theorem copiedItems_nil (w : World) : Calls Tryz.prog 109 #[.slice none 0 0] w fun z w' => ∃ p c, z = .returned (.slice p 0 c) ∧ Below w.heap.size w w' := (copiedItems_own none 0 0 [] w (by omega) rfl (items_nil _ _) (by simp) (by simp)).mono fun _ _ ⟨p, c, _, a, _, _, b⟩ => ⟨p, c, a, b⟩
set_option maxHeartbeats 8000000 in
theorem copiedPost_new (w : World) : Calls Tryz.prog 63 #[.agg #[.slice none 0 0, .int .i64 0, .slice none 0 0, .int .i64 0]] w fun z w' => ∃ qa ca qb cb, z = .returned (.agg #[.slice qa 0 ca, .int .i64 0, .slice qb 0 cb, .int .i64 0]) ∧ Own 5 w' w.heap.size w'.heap.size (.slice qb 0 cb) 0 [] ∧ Below w.heap.size w w' := by
  have bA := buildP
  go_enter Tryz.func63, Tryz.ntmps63
  go_wp2_with (fail)
  obtain ⟨W1, hW1⟩ : ∃ W1, (w.alloc (.cells #[.slice none 0 0, .int .i64 0, .slice none 0 0, .int .i64 0] 25)).alloc (.cells #[.slice none 0 0, .int .i64 0, .slice none 0 0, .int .i64 0] 25) = W1 := ⟨_, rfl⟩
  have CR : Cells W1 w.heap.size #[.slice none 0 0, .int .i64 0, .slice none 0 0, .int .i64 0] := by rw [← hW1]; exact (Cells.made w _ _).on (made_below _ _ (Below.refl _ _))
  have CZ : Cells W1 (w.heap.size + 1) #[.slice none 0 0, .int .i64 0, .slice none 0 0, .int .i64 0] := by
    have k := Cells.made (w.alloc (.cells #[.slice none 0 0, .int .i64 0, .slice none 0 0, .int .i64 0] 25)) #[.slice none 0 0, .int .i64 0, .slice none 0 0, .int .i64 0] 25
    rw [show (w.alloc (.cells #[.slice none 0 0, .int .i64 0, .slice none 0 0, .int .i64 0] 25)).heap.size = w.heap.size + 1 by simp, hW1] at k
    exact k
  have k1 : Below w.heap.size w W1 := by rw [← hW1]; exact made_below _ _ (made_below _ _ (Below.refl _ _))
  have s1 : W1.heap.size = w.heap.size + 1 + 1 := by rw [← hW1]; simp
  rw [hW1]
  clear hW1
  have kd : Below w.heap.size w W1.drew := k1.drew
  have CZd : Cells W1.drew (w.heap.size + 1) #[.slice none 0 0, .int .i64 0, .slice none 0 0, .int .i64 0] := CZ.on (Below.refl _ _).drew
  have CRd : Cells W1.drew w.heap.size #[.slice none 0 0, .int .i64 0, .slice none 0 0, .int .i64 0] := CR.on (Below.refl _ _).drew
  have HK : ∀ X, Cells X w.heap.size #[.slice none 0 0, .int .i64 0, .slice none 0 0, .int .i64 0] → X.cell? ⟨w.heap.size, 0, none⟩ = some (.slice none 0 0) ∧ X.cell? ⟨w.heap.size, 1, none⟩ = some (.int .i64 0) ∧ X.cell? ⟨w.heap.size, 2, none⟩ = some (.slice none 0 0) ∧ X.cell? ⟨w.heap.size, 3, none⟩ = some (.int .i64 0) := fun X hX => ⟨(hX.2 0).1, (hX.2 1).1, (hX.2 2).1, (hX.2 3).1⟩
  have ne : w.heap.size ≠ w.heap.size + 1 := by omega
  have T1 := fun (X : World) => copiedItems_nil X
  have T2 := fun (X : World) => copied_any none 0 0 [] X (by omega) rfl (fun h => absurd h (Nat.lt_irrefl 0))
  go_region_held3 (fun X => X.cell? ⟨w.heap.size, 0, none⟩ = some (.slice none 0 0) ∧ X.cell? ⟨w.heap.size, 1, none⟩ = some (.int .i64 0) ∧ X.cell? ⟨w.heap.size, 2, none⟩ = some (.slice none 0 0) ∧ X.cell? ⟨w.heap.size, 3, none⟩ = some (.int .i64 0)) (exact HK _ (by repeat (with_reducible (first | exact CRd | refine Cells.other ?_ _ ne | refine Cells.on ?_ b2 | refine Cells.on ?_ b3)))) (first | (go_at_call 109; refine (T1 _).mono ?_; rintro z w2 ⟨p2, c2, rfl, b2⟩) | (go_at_call 62; refine (T2 _).mono ?_; rintro z w3 ⟨p3, c3, rfl, r3, b3⟩; have Z4 : Cells w3 (w.heap.size + 1) #[.slice none 0 0, .int .i64 0, .slice none 0 0, .int .i64 0] := (CZd.on b2).on b3; have m0 : (w3).cell? ⟨w.heap.size + 1, 0, none⟩ = some (.slice none 0 0) := (Z4.2 0).1; have f0 := (Z4.2 0).2; have D0 := Z4.set 0 (by simp) (.slice p2 0 c2); have m1 : ((w3.setCell ⟨w.heap.size + 1, 0, none⟩ (.slice p2 0 c2))).cell? ⟨w.heap.size + 1, 1, none⟩ = some (.int .i64 0) := (D0.2 1).1; have f1 := (D0.2 1).2; have D1 := D0.set 1 (by simp) (.int .i64 0); have m2 : (((w3.setCell ⟨w.heap.size + 1, 0, none⟩ (.slice p2 0 c2)).setCell ⟨w.heap.size + 1, 1, none⟩ (.int .i64 0))).cell? ⟨w.heap.size + 1, 2, none⟩ = some (.slice none 0 0) := (D1.2 2).1; have f2 := (D1.2 2).2; have D2 := D1.set 2 (by simp) (.slice p3 0 c3); have m3 : ((((w3.setCell ⟨w.heap.size + 1, 0, none⟩ (.slice p2 0 c2)).setCell ⟨w.heap.size + 1, 1, none⟩ (.int .i64 0)).setCell ⟨w.heap.size + 1, 2, none⟩ (.slice p3 0 c3))).cell? ⟨w.heap.size + 1, 3, none⟩ = some (.int .i64 0) := (D2.2 3).1; have f3 := (D2.2 3).2; have D3 := D2.set 3 (by simp) (.int .i64 0)))
  have lt : w.heap.size + 1 < W1.drew.heap.size := by show w.heap.size + 1 < W1.heap.size; omega
  have s2 := b2.size
  obtain ⟨X3, hX3⟩ : ∃ X3, X3 = ((((w3.setCell ⟨w.heap.size + 1, 0, none⟩ (.slice p2 0 c2)).setCell ⟨w.heap.size + 1, 1, none⟩ (.int .i64 0)).setCell ⟨w.heap.size + 1, 2, none⟩ (.slice p3 0 c3)).setCell ⟨w.heap.size + 1, 3, none⟩ (.int .i64 0)) := ⟨_, rfl⟩
  have r9 := (Own.set_below (Own.set_below (Own.set_below (Own.set_below r3 (a := ⟨w.heap.size + 1, 0, none⟩) (show w.heap.size + 1 < w2.heap.size by omega) (.slice p2 0 c2)) (a := ⟨w.heap.size + 1, 1, none⟩) (show w.heap.size + 1 < w2.heap.size by omega) (.int .i64 0)) (a := ⟨w.heap.size + 1, 2, none⟩) (show w.heap.size + 1 < w2.heap.size by omega) (.slice p3 0 c3)) (a := ⟨w.heap.size + 1, 3, none⟩) (show w.heap.size + 1 < w2.heap.size by omega) (.int .i64 0))
  rw [← hX3] at r9
  have k4 := below_on (below_on kd b2) b3
  have bX : Below w.heap.size w X3 := by rw [hX3]; exact (((k4.setCell (show w.heap.size ≤ w.heap.size + 1 by omega) _).setCell (show w.heap.size ≤ w.heap.size + 1 by omega) _).setCell (show w.heap.size ≤ w.heap.size + 1 by omega) _).setCell (show w.heap.size ≤ w.heap.size + 1 by omega) _
  have sX : w3.heap.size ≤ X3.heap.size := by rw [hX3]; simp
  rw [← hX3] at D3
  have y0 : X3.cell? ⟨w.heap.size + 1, 0, none⟩ = some (.slice p2 0 c2) := (D3.2 0).1
  have y1 : X3.cell? ⟨w.heap.size + 1, 1, none⟩ = some (.int .i64 0) := (D3.2 1).1
  have y2 : X3.cell? ⟨w.heap.size + 1, 2, none⟩ = some (.slice p3 0 c3) := (D3.2 2).1
  have y3 : X3.cell? ⟨w.heap.size + 1, 3, none⟩ = some (.int .i64 0) := (D3.2 3).1
  replace hX3 : Hid (((((w3.setCell ⟨w.heap.size + 1, 0, none⟩ (.slice p2 0 c2)).setCell ⟨w.heap.size + 1, 1, none⟩ (.int .i64 0)).setCell ⟨w.heap.size + 1, 2, none⟩ (.slice p3 0 c3)).setCell ⟨w.heap.size + 1, 3, none⟩ (.int .i64 0)) = X3) := hX3.symm
  clear D0 D1 D2 D3 Z4 k4 b2 b3 CZd CRd HK CR CZ k1 kd T1 T2
  rw [hX3.out]
  go_wp2_with (fail)
  refine bodyPost_ret (v := .agg #[.slice p2 0 c2, .int .i64 0, .slice p3 0 c3, .int .i64 0]) ?_ rfl ⟨p2, c2, p3, c3, rfl, ⟨owns_mono r9.1 (by have := r9.1; omega), fun k hk => Nat.lt_of_lt_of_le (r9.2 k hk) sX⟩, bX⟩
  simp only [results, Tryz.f63]
  go_simp
end Go.Proofs.YthfnechcddmjkaaGreatDoor

namespace Go.Proofs.YthfnechcddmjkaaGreatDoor
open Go.RowKit
set_option maxRecDepth 100000
theorem mid4 {X : World} {g : Nat} {A : Array Value} (h : Cells X g A) (k : Nat) (a b c d : Value) (ha : A[k]? = some a) (hb : A[k + 1]? = some b) (hc : A[k + 2]? = some c) (hd : A[k + 3]? = some d) : X.rangeAt g k [a, b, c, d] := fun j v hv => by
  match j, hv with
  | 0, hv => simp at hv; subst hv; exact (h.2 _).1.trans ha
  | 1, hv => simp at hv; subst hv; exact (h.2 _).1.trans hb
  | 2, hv => simp at hv; subst hv; exact (h.2 _).1.trans hc
  | 3, hv => simp at hv; subst hv; exact (h.2 _).1.trans hd
  | j + 4, hv => simp at hv
theorem anyT_two {P : Program} {ops : Array Oper} {Q : Exit → Act → World → Prop} {T S : World → Prop} {m : Nat} {i j : Nat} {o o' : Oper} {fuel : Nat} {listed : Array Bool} {a : Act} {w : World} (hr : Region.ready .any ops listed = [i, j]) (ho : ops[i]? = some o) (ho' : ops[j]? = some o')
    (h : ∀ K' : Act → World → Prop, Shut (∀ a w, T w → ((listed.setIfInBounds i true).getD m true = false → S w) → AnyT P ops Q T S m fuel (listed.setIfInBounds i true) a w → K' a w) → if Region.wanted o (yielded ops a.tmps) = true then Oper.wp P o a w K' Q else K' (a.put o.dst undef) w)
    (h' : ∀ K' : Act → World → Prop, Shut (∀ a w, T w → ((listed.setIfInBounds j true).getD m true = false → S w) → AnyT P ops Q T S m fuel (listed.setIfInBounds j true) a w → K' a w) → if Region.wanted o' (yielded ops a.tmps) = true then Oper.wp P o' a w K' Q else K' (a.put o'.dst undef) w) :
    AnyT P ops Q T S m (fuel + 1) listed a w := by
  refine ⟨fun e => absurd (hr.symm.trans e) (by simp), fun q hq => ?_⟩
  rw [hr, List.mem_cons, List.mem_singleton] at hq
  rcases hq with rfl | rfl
  · exact wpOp_step ho (fun K' hK => h K' (fun a w h0 h1 h2 => hK a w ⟨h0, h1, h2⟩))
  · exact wpOp_step ho' (fun K' hK => h' K' (fun a w h0 h1 h2 => hK a w ⟨h0, h1, h2⟩))
theorem sizePost (a b c d : Value) : (Tryz.prog.info? 25).map (·.size) = some [a, b, c, d].length := by kernel_rfl
theorem sizeReader (a b c d : Value) : (Tryz.prog.info? 28).map (·.size) = some [a, b, c, d].length := by kernel_rfl
theorem sizeWorld (a0 a1 a2 a3 a4 a5 a6 a7 a8 a9 b0 b1 b2 : Value) : (Tryz.prog.info? 32).map (·.size) = some (#[a0, a1, a2, a3, a4, a5, a6, a7, a8, a9, b0, b1, b2]).size := by kernel_rfl
theorem buildW (w : World) (p p' : Option Addr) (n c n' c' : Nat) (A0 A1 A2 A3 B1 B2 B3 : Value) (e u : Int) : (Instr.build 32 #[(0, .slice p n c), (1, .int .i64 e), (2, .int .i64 u), (3, .agg #[A0, A1, A2, A3]), (4, .agg #[.slice p' n' c', B1, B2, B3])]).run Tryz.prog w = .ok (.agg #[.slice p n c, .int .i64 e, .int .i64 u, A0, A1, A2, A3, .slice p' n' c', B1, B2, B3, .slice none 0 0, .slice none 0 0]) w := by kernel_rfl
theorem setCells_grown (g : Nat) : ∀ (vs : List Value) (o : Nat) (w : World), w.grownBy (w.setCells g o vs) (some g)
  | [], _, w => ⟨rfl, rfl, rfl, Nat.le_refl _, fun _ _ _ => rfl⟩
  | v :: r, o, w => by
    have h1 := set_grown w g o v
    have h2 := setCells_grown g r (o + 1) (w.setCell ⟨g, o, none⟩ v)
    exact ⟨h2.os.trans h1.os, h2.tape.trans h1.tape, h2.output.trans h1.output, Nat.le_trans h1.size h2.size, fun k hk hne => (h2.block k (Nat.lt_of_lt_of_le hk h1.size) hne).trans (h1.block k hk hne)⟩
theorem Cells.there {w : World} {g : Nat} {A : Array Value} (h : Cells w g A) : w.there g 0 A.size := fun j hj => ⟨by rw [Nat.zero_add, (h.2 j).1]; simp [hj], by rw [Nat.zero_add]; exact (h.2 j).2⟩
theorem Cells.range {w : World} {g : Nat} {vs : List Value} (h : Cells w g vs.toArray) : w.rangeAt g 0 vs := fun j v hv => by rw [Nat.zero_add, (h.2 j).1]; simpa using hv
theorem Own.widen {e : Nat} {w : World} {lo lo' hi hi' : Nat} {v : Value} {n : Nat} {xs : List Int} (h : Own e w lo hi v n xs) (hl : lo' ≤ lo) (hh : hi ≤ hi') : Own e w lo' hi' v n xs := ⟨owns_mono h.1 hl, fun k hk => Nat.lt_of_lt_of_le (h.2 k hk) hh⟩
theorem Own.past_row {e : Nat} {w w' : World} {lo hi g : Nat} {v : Value} {n : Nat} {xs : List Int} (h : Own e w lo hi v n xs) (hg : w.grownBy w' (some g)) (hd : g < lo ∨ hi ≤ g) : Own e w' lo hi v n xs :=
  ⟨h.1.kept hg (by
    by_cases x : v.ownBlock = some g
    · have h1 := h.2 g x
      have h2 := (h.1.lt g x).1
      omega
    · exact Or.inr x), h.2⟩
theorem Cells.setAll {w : World} {g : Nat} {A : Array Value} (h : Cells w g A) (vs : List Value) (hl : vs.length = A.size) : Cells (w.setCells g 0 vs) g vs.toArray := by
  refine ⟨Nat.lt_of_lt_of_le h.1 (setCells_grown g vs 0 w).size, fun i => ⟨?_, ?_⟩⟩
  · by_cases hi : i < vs.length
    · have k := World.cell?_setCells_in g vs 0 w (fun j hj => by rw [Nat.zero_add, (h.2 j).1]; simp [← hl, hj]) i hi
      rw [Nat.zero_add] at k
      rw [k]
      simp [hi]
    · rw [World.cell?_setCells_out g vs 0 w _ (fun _ _ => Or.inr (by show 0 + vs.length ≤ i; omega)), (h.2 i).1, Array.getElem?_eq_none (by omega), Array.getElem?_eq_none (by simpa using hi)]
  · rw [World.frozen?_setCells]
    exact (h.2 i).2
set_option maxHeartbeats 16000000 in
theorem copiedWorld_new (p q : Option Addr) (n c m d : Nat) (xs ys : List Int) (w : World) (hn : n ≤ 1048576) (hx : xs.length = n) (h : BytesIn w p n xs) (hm : m ≤ 1048576) (hy : ys.length = m) (h' : BytesIn w q m ys) : Calls Tryz.prog 23 #[.agg #[.slice p n c, .int .i64 0, .int .i64 0, .slice none 0 0, .int .i64 0, .slice none 0 0, .int .i64 0, .slice q m d, .int .i64 0, .slice none 0 0, .slice none 0 0, .slice none 0 0, .slice none 0 0]] w fun z w' => ∃ p' c' qa ca qb cb p4 c4 qc cc qd cd k, z = .returned (.agg #[.slice p' n c', .int .i64 0, .int .i64 0, .slice qa 0 ca, .int .i64 0, .slice qb 0 cb, .int .i64 0, .slice p4 m c4, .int .i64 0, .slice qc 0 cc, .slice qd 0 cd, .slice none 0 0, .slice none 0 0]) ∧ Own 5 w' w.heap.size k (.slice p' n c') n xs ∧ Own 5 w' k w'.heap.size (.slice p4 m c4) m ys ∧ Below w.heap.size w w' := by
  have bW := buildW
  go_enter Tryz.func23, Tryz.ntmps23
  go_wp2_with (fail)
  obtain ⟨W1, hW1⟩ : ∃ W1, (w.alloc (.cells #[.slice p n c, .int .i64 0, .int .i64 0, .slice none 0 0, .int .i64 0, .slice none 0 0, .int .i64 0, .slice q m d, .int .i64 0, .slice none 0 0, .slice none 0 0, .slice none 0 0, .slice none 0 0] 32)).alloc (.cells #[.slice none 0 0, .int .i64 0, .int .i64 0, .slice none 0 0, .int .i64 0, .slice none 0 0, .int .i64 0, .slice none 0 0, .int .i64 0, .slice none 0 0, .slice none 0 0, .slice none 0 0, .slice none 0 0] 32) = W1 := ⟨_, rfl⟩
  have CR : Cells W1 w.heap.size #[.slice p n c, .int .i64 0, .int .i64 0, .slice none 0 0, .int .i64 0, .slice none 0 0, .int .i64 0, .slice q m d, .int .i64 0, .slice none 0 0, .slice none 0 0, .slice none 0 0, .slice none 0 0] := by rw [← hW1]; exact (Cells.made w _ _).on (made_below _ _ (Below.refl _ _))
  have CZ : Cells W1 (w.heap.size + 1) #[.slice none 0 0, .int .i64 0, .int .i64 0, .slice none 0 0, .int .i64 0, .slice none 0 0, .int .i64 0, .slice none 0 0, .int .i64 0, .slice none 0 0, .slice none 0 0, .slice none 0 0, .slice none 0 0] := by
    have k := Cells.made (w.alloc (.cells #[.slice p n c, .int .i64 0, .int .i64 0, .slice none 0 0, .int .i64 0, .slice none 0 0, .int .i64 0, .slice q m d, .int .i64 0, .slice none 0 0, .slice none 0 0, .slice none 0 0, .slice none 0 0] 32)) #[.slice none 0 0, .int .i64 0, .int .i64 0, .slice none 0 0, .int .i64 0, .slice none 0 0, .int .i64 0, .slice none 0 0, .int .i64 0, .slice none 0 0, .slice none 0 0, .slice none 0 0, .slice none 0 0] 32
    rw [show (w.alloc (.cells #[.slice p n c, .int .i64 0, .int .i64 0, .slice none 0 0, .int .i64 0, .slice none 0 0, .int .i64 0, .slice q m d, .int .i64 0, .slice none 0 0, .slice none 0 0, .slice none 0 0, .slice none 0 0] 32)).heap.size = w.heap.size + 1 by simp, hW1] at k
    exact k
  have k1 : Below w.heap.size w W1 := by rw [← hW1]; exact made_below _ _ (made_below _ _ (Below.refl _ _))
  have s1 : W1.heap.size = w.heap.size + 1 + 1 := by rw [← hW1]; simp
  rw [hW1]
  clear hW1
  refine wp_region_noPanic ?_
  refine wp_region_T 99 (fun X => Cells X w.heap.size #[.slice p n c, .int .i64 0, .int .i64 0, .slice none 0 0, .int .i64 0, .slice none 0 0, .int .i64 0, .slice q m d, .int .i64 0, .slice none 0 0, .slice none 0 0, .slice none 0 0, .slice none 0 0]) (fun _ => True) (by kernel_rfl) ?_
  have i0 := in_below h k1.drew
  have i1 := in_below h' k1.drew
  have kT : Cells W1.drew w.heap.size #[.slice p n c, .int .i64 0, .int .i64 0, .slice none 0 0, .int .i64 0, .slice none 0 0, .int .i64 0, .slice q m d, .int .i64 0, .slice none 0 0, .slice none 0 0, .slice none 0 0, .slice none 0 0] := CR.on (Below.refl _ _).drew
  replace CZ : Cells W1.drew (w.heap.size + 1) #[.slice none 0 0, .int .i64 0, .int .i64 0, .slice none 0 0, .int .i64 0, .slice none 0 0, .int .i64 0, .slice none 0 0, .int .i64 0, .slice none 0 0, .slice none 0 0, .slice none 0 0, .slice none 0 0] := CZ.on (Below.refl _ _).drew
  have kw : Below w.heap.size w W1.drew := k1.drew
  have sW : w.heap.size + 1 < W1.drew.heap.size := by show w.heap.size + 1 < W1.heap.size; omega
  clear CR k1 s1
  generalize W1.drew = W at i0 i1 kT CZ kw sW ⊢
  have kW : Below W.heap.size W W := Below.refl _ _
  have C0 := fun X (b : Below W.heap.size W X) => copied_any p n c xs X hn hx (in_below i0 b)
  have C2 := fun X (b : Below W.heap.size W X) => copiedReader_new q m d ys X hm hy (in_below i1 b)
  have C1 := fun X => copiedPost_new X
  refine anyT_takeT (i := 0) (v := .pointer (some ⟨w.heap.size, 0, none⟩)) rfl (by kernel_rfl) (by kernel_rfl) (by kernel_rfl) (by kernel_rfl) (fun _ _ _ h => h) (Or.inl ⟨by rfl, fun X hSw => by ((try dsimp only at hSw); go_simp)⟩) kT (fun _ => trivial) ?_
  (try simp only [Act.put, List.getElem_toArray, List.getElem_cons_zero, List.setIfInBounds_toArray, List.set_cons_zero, List.set_cons_succ])
  refine anyT_takeT (i := 1) (v := .slice p n c) rfl (by kernel_rfl) (by kernel_rfl) (by kernel_rfl) (by kernel_rfl) (fun _ _ _ h => h) (Or.inl ⟨by rfl, fun X hSw => by (have q0 := (hSw.2 0).1; go_simp)⟩) kT (fun _ => trivial) ?_
  (try simp only [Act.put, List.getElem_toArray, List.getElem_cons_zero, List.getElem_cons_succ, List.setIfInBounds_toArray, List.set_cons_zero, List.set_cons_succ])
  refine anyT_takeT (i := 3) (v := .pointer (some ⟨w.heap.size, 1, none⟩)) rfl (by kernel_rfl) (by kernel_rfl) (by kernel_rfl) (by kernel_rfl) (fun _ _ _ h => h) (Or.inl ⟨by rfl, fun X hSw => by ((try dsimp only at hSw); go_simp)⟩) kT (fun _ => trivial) ?_
  (try simp only [Act.put, List.getElem_toArray, List.getElem_cons_zero, List.getElem_cons_succ, List.setIfInBounds_toArray, List.set_cons_zero, List.set_cons_succ])
  refine anyT_takeT (i := 4) (v := .int .i64 0) rfl (by kernel_rfl) (by kernel_rfl) (by kernel_rfl) (by kernel_rfl) (fun _ _ _ h => h) (Or.inl ⟨by rfl, fun X hSw => by (have q0 := (hSw.2 1).1; go_simp)⟩) kT (fun _ => trivial) ?_
  (try simp only [Act.put, List.getElem_toArray, List.getElem_cons_zero, List.getElem_cons_succ, List.setIfInBounds_toArray, List.set_cons_zero, List.set_cons_succ])
  refine anyT_takeT (i := 5) (v := .pointer (some ⟨w.heap.size, 2, none⟩)) rfl (by kernel_rfl) (by kernel_rfl) (by kernel_rfl) (by kernel_rfl) (fun _ _ _ h => h) (Or.inl ⟨by rfl, fun X hSw => by ((try dsimp only at hSw); go_simp)⟩) kT (fun _ => trivial) ?_
  (try simp only [Act.put, List.getElem_toArray, List.getElem_cons_zero, List.getElem_cons_succ, List.setIfInBounds_toArray, List.set_cons_zero, List.set_cons_succ])
  refine anyT_takeT (i := 6) (v := .int .i64 0) rfl (by kernel_rfl) (by kernel_rfl) (by kernel_rfl) (by kernel_rfl) (fun _ _ _ h => h) (Or.inl ⟨by rfl, fun X hSw => by (have q0 := (hSw.2 2).1; go_simp)⟩) kT (fun _ => trivial) ?_
  (try simp only [Act.put, List.getElem_toArray, List.getElem_cons_zero, List.getElem_cons_succ, List.setIfInBounds_toArray, List.set_cons_zero, List.set_cons_succ])
  refine anyT_takeT (i := 7) (v := .pointer (some ⟨w.heap.size, 3, none⟩)) rfl (by kernel_rfl) (by kernel_rfl) (by kernel_rfl) (by kernel_rfl) (fun _ _ _ h => h) (Or.inl ⟨by rfl, fun X hSw => by ((try dsimp only at hSw); go_simp)⟩) kT (fun _ => trivial) ?_
  (try simp only [Act.put, List.getElem_toArray, List.getElem_cons_zero, List.getElem_cons_succ, List.setIfInBounds_toArray, List.set_cons_zero, List.set_cons_succ])
  refine anyT_takeT (i := 8) rfl (by kernel_rfl) (by kernel_rfl) (by kernel_rfl) (by kernel_rfl) (fun _ _ _ h => h) (yieldsIf_load_mid (by rfl) _ _ rfl _ _ rfl [.slice none 0 0, .int .i64 0, .slice none 0 0, .int .i64 0] _ (fun X hX => mid4 hX 3 _ _ _ _ rfl rfl rfl rfl) Tryz.underlying25 rfl (sizePost _ _ _ _)) kT (fun _ => trivial) ?_
  (try simp only [Act.put, List.getElem_toArray, List.getElem_cons_zero, List.getElem_cons_succ, List.setIfInBounds_toArray, List.set_cons_zero, List.set_cons_succ])
  refine anyT_takeT (i := 10) (v := .pointer (some ⟨w.heap.size, 7, none⟩)) rfl (by kernel_rfl) (by kernel_rfl) (by kernel_rfl) (by kernel_rfl) (fun _ _ _ h => h) (Or.inl ⟨by rfl, fun X hSw => by ((try dsimp only at hSw); go_simp)⟩) kT (fun _ => trivial) ?_
  (try simp only [Act.put, List.getElem_toArray, List.getElem_cons_zero, List.getElem_cons_succ, List.setIfInBounds_toArray, List.set_cons_zero, List.set_cons_succ])
  refine anyT_takeT (i := 11) rfl (by kernel_rfl) (by kernel_rfl) (by kernel_rfl) (by kernel_rfl) (fun _ _ _ h => h) (yieldsIf_load_mid (by rfl) _ _ rfl _ _ rfl [.slice q m d, .int .i64 0, .slice none 0 0, .slice none 0 0] _ (fun X hX => mid4 hX 7 _ _ _ _ rfl rfl rfl rfl) Tryz.underlying28 rfl (sizeReader _ _ _ _)) kT (fun _ => trivial) ?_
  (try simp only [Act.put, List.getElem_toArray, List.getElem_cons_zero, List.getElem_cons_succ, List.setIfInBounds_toArray, List.set_cons_zero, List.set_cons_succ])
  refine anyT_two (i := 2) (j := 14) (by kernel_rfl) rfl rfl (fun K hK => ?_) (fun K hK => ?_)
  · go_simp
    refine (C0 _ kW).mono ?_
    rintro e wY2 ⟨p2, c2, rfl, r2, b2⟩
    have kwY2 := below_on kW b2
    have t2 := kT.on b2
    have s2 := b2.size
    (try replace o2 := o2.on b2)
    (try replace o4 := o4.on b2)
    have o2 := r2
    go_wp2_with (fail)
    refine hK.out _ _ t2 (fun _ => trivial) ?_
    clear hK K
    refine anyT_two (i := 9) (j := 14) (by kernel_rfl) rfl rfl (fun K hK => ?_) (fun K hK => ?_)
    · go_simp
      refine (C1 _).mono ?_
      rintro e wY4 ⟨qa, ca, qb, cb, rfl, r3, b4⟩
      have kwY4 := below_on kwY2 b4
      have t4 := t2.on b4
      have s4 := b4.size
      (try replace o2 := o2.on b4)
      (try replace o4 := o4.on b4)
      go_wp2_with (fail)
      refine hK.out _ _ t4 (fun _ => trivial) ?_
      clear hK K
      refine anyT_two (i := 12) (j := 14) (by kernel_rfl) rfl rfl (fun K hK => ?_) (fun K hK => ?_)
      · go_simp
        refine (C2 _ kwY4).mono ?_
        rintro e wY6 ⟨p4, c4, qc, cc, qd, cd, rfl, r4, b6⟩
        have kwY6 := below_on kwY4 b6
        have t6 := t4.on b6
        have s6 := b6.size
        (try replace o2 := o2.on b6)
        (try replace o4 := o4.on b6)
        have o4 := r4
        go_wp2_with (fail)
        refine hK.out _ _ t6 (fun _ => trivial) ?_
        clear hK K
        refine anyT_takeT (i := 13) (v := .agg #[.slice p2 n c2, .int .i64 0, .int .i64 0, .slice qa 0 ca, .int .i64 0, .slice qb 0 cb, .int .i64 0, .slice p4 m c4, .int .i64 0, .slice qc 0 cc, .slice qd 0 cd, .slice none 0 0, .slice none 0 0]) rfl (by kernel_rfl) (by kernel_rfl) (by kernel_rfl) (by kernel_rfl) (fun _ _ _ h => h) (Or.inl ⟨by rfl, fun X hSw => by (go_simp)⟩) t6 (fun _ => trivial) ?_
        (try simp only [Act.put, List.getElem_toArray, List.getElem_cons_zero, List.getElem_cons_succ, List.setIfInBounds_toArray, List.set_cons_zero, List.set_cons_succ])
        refine anyT_one (i := 14) (by kernel_rfl) rfl (fun K hK => ?_)
        go_simp
        have z8 := Cells.made wY6 #[.slice none 0 0, .int .i64 0, .int .i64 0, .slice none 0 0, .int .i64 0, .slice none 0 0, .int .i64 0, .slice none 0 0, .int .i64 0, .slice none 0 0, .slice none 0 0, .slice none 0 0, .slice none 0 0] 32
        have b8 : Below wY6.heap.size wY6 (wY6.alloc (.cells #[.slice none 0 0, .int .i64 0, .int .i64 0, .slice none 0 0, .int .i64 0, .slice none 0 0, .int .i64 0, .slice none 0 0, .int .i64 0, .slice none 0 0, .slice none 0 0, .slice none 0 0, .slice none 0 0] 32)) := (Below.refl _ _).alloc (Nat.le_refl _) _
        have kwY8 := below_on kwY6 b8
        have t8 := t6.on b8
        have s8 := b8.size
        have u8 := z8.1
        (try replace o2 := o2.on b8)
        (try replace o4 := o4.on b8)
        refine hK.out _ _ t8 (fun _ => trivial) ?_
        clear hK K
        generalize wY6.alloc (.cells #[.slice none 0 0, .int .i64 0, .int .i64 0, .slice none 0 0, .int .i64 0, .slice none 0 0, .int .i64 0, .slice none 0 0, .int .i64 0, .slice none 0 0, .slice none 0 0, .slice none 0 0, .slice none 0 0] 32) = wY8 at *
        have gW : W.heap.size ≤ wY6.heap.size := kwY6.size
        have ne : w.heap.size ≠ wY6.heap.size := by have u1 := kT.1; omega
        refine anyT_one (i := 15) (by kernel_rfl) rfl (fun K hK => ?_)
        have g10 := setCells_grown (wY6.heap.size) [.slice p2 n c2, .int .i64 0, .int .i64 0, .slice qa 0 ca, .int .i64 0, .slice qb 0 cb, .int .i64 0, .slice p4 m c4, .int .i64 0, .slice qc 0 cc, .slice qd 0 cd, .slice none 0 0, .slice none 0 0] 0 wY8
        have v10 := Cells.setAll z8 [.slice p2 n c2, .int .i64 0, .int .i64 0, .slice qa 0 ca, .int .i64 0, .slice qb 0 cb, .int .i64 0, .slice p4 m c4, .int .i64 0, .slice qc 0 cc, .slice qd 0 cd, .slice none 0 0, .slice none 0 0] rfl
        have t10 := Cells.grown t8 g10 (fun h => ne (Option.some.inj h))
        refine wp_store_mid 32 _ _ rfl (wY6.heap.size) 0 #[.slice p2 n c2, .int .i64 0, .int .i64 0, .slice qa 0 ca, .int .i64 0, .slice qb 0 cb, .int .i64 0, .slice p4 m c4, .int .i64 0, .slice qc 0 cc, .slice qd 0 cd, .slice none 0 0, .slice none 0 0] rfl rfl z8.there (sizeWorld _ _ _ _ _ _ _ _ _ _ _ _ _) (all_oneCell_toArray (by simp [Value.oneCell'])) ?_
        refine hK.out _ _ t10 (fun _ => trivial) ?_
        clear hK K
        refine anyT_done (by kernel_rfl) ?_ _
        refine NoPanic.normal ?_
        obtain ⟨wY10, hwY10⟩ : ∃ Y, Y = wY8.setCells (wY6.heap.size) 0 [.slice p2 n c2, .int .i64 0, .int .i64 0, .slice qa 0 ca, .int .i64 0, .slice qb 0 cb, .int .i64 0, .slice p4 m c4, .int .i64 0, .slice qc 0 cc, .slice qd 0 cd, .slice none 0 0, .slice none 0 0] := ⟨_, rfl⟩
        rw [← hwY10] at g10 v10 t10
        rw [show wY8.setCells (wY6.heap.size) 0 (#[.slice p2 n c2, .int .i64 0, .int .i64 0, .slice qa 0 ca, .int .i64 0, .slice qb 0 cb, .int .i64 0, .slice p4 m c4, .int .i64 0, .slice qc 0 cc, .slice qd 0 cd, .slice none 0 0, .slice none 0 0]).toList = wY10 from hwY10.symm]
        clear hwY10
        have y0 : wY10.cell? ⟨w.heap.size, 11, none⟩ = some (.slice none 0 0) := (t10.2 11).1
        have y1 : wY10.cell? ⟨w.heap.size, 12, none⟩ = some (.slice none 0 0) := (t10.2 12).1
        have neR : w.heap.size + 1 ≠ wY6.heap.size := by omega
        have zR := (CZ.on kwY8).grown g10 (fun h => neR (Option.some.inj h))
        have gE0 := setCells_grown (w.heap.size + 1) [.slice p2 n c2, .int .i64 0, .int .i64 0, .slice qa 0 ca, .int .i64 0, .slice qb 0 cb, .int .i64 0, .slice p4 m c4, .int .i64 0, .slice qc 0 cc, .slice qd 0 cd, .slice none 0 0, .slice none 0 0] 0 wY10
        have zE0 := Cells.setAll zR [.slice p2 n c2, .int .i64 0, .int .i64 0, .slice qa 0 ca, .int .i64 0, .slice qb 0 cb, .int .i64 0, .slice p4 m c4, .int .i64 0, .slice qc 0 cc, .slice qd 0 cd, .slice none 0 0, .slice none 0 0] rfl
        have kE : Below w.heap.size w wY10 := (below_on kw kwY8).grown g10 (below_on kw kwY8).size (fun q hq => by have := Option.some.inj hq; omega)
        have gE : World.grownBy wY10 ((((((((((((((wY10.setCell ⟨w.heap.size + 1, 0, none⟩ (.slice p2 n c2)).setCell ⟨w.heap.size + 1, 1, none⟩ (.int .i64 0)).setCell ⟨w.heap.size + 1, 2, none⟩ (.int .i64 0)).setCell ⟨w.heap.size + 1, 3, none⟩ (.slice qa 0 ca)).setCell ⟨w.heap.size + 1, 4, none⟩ (.int .i64 0)).setCell ⟨w.heap.size + 1, 5, none⟩ (.slice qb 0 cb)).setCell ⟨w.heap.size + 1, 6, none⟩ (.int .i64 0)).setCell ⟨w.heap.size + 1, 7, none⟩ (.slice p4 m c4)).setCell ⟨w.heap.size + 1, 8, none⟩ (.int .i64 0)).setCell ⟨w.heap.size + 1, 9, none⟩ (.slice qc 0 cc)).setCell ⟨w.heap.size + 1, 10, none⟩ (.slice qd 0 cd)).setCell ⟨w.heap.size + 1, 11, none⟩ (.slice none 0 0)).setCell ⟨w.heap.size + 1, 12, none⟩ (.slice none 0 0))) (some (w.heap.size + 1)) := gE0
        have zE : Cells ((((((((((((((wY10.setCell ⟨w.heap.size + 1, 0, none⟩ (.slice p2 n c2)).setCell ⟨w.heap.size + 1, 1, none⟩ (.int .i64 0)).setCell ⟨w.heap.size + 1, 2, none⟩ (.int .i64 0)).setCell ⟨w.heap.size + 1, 3, none⟩ (.slice qa 0 ca)).setCell ⟨w.heap.size + 1, 4, none⟩ (.int .i64 0)).setCell ⟨w.heap.size + 1, 5, none⟩ (.slice qb 0 cb)).setCell ⟨w.heap.size + 1, 6, none⟩ (.int .i64 0)).setCell ⟨w.heap.size + 1, 7, none⟩ (.slice p4 m c4)).setCell ⟨w.heap.size + 1, 8, none⟩ (.int .i64 0)).setCell ⟨w.heap.size + 1, 9, none⟩ (.slice qc 0 cc)).setCell ⟨w.heap.size + 1, 10, none⟩ (.slice qd 0 cd)).setCell ⟨w.heap.size + 1, 11, none⟩ (.slice none 0 0)).setCell ⟨w.heap.size + 1, 12, none⟩ (.slice none 0 0))) (w.heap.size + 1) #[.slice p2 n c2, .int .i64 0, .int .i64 0, .slice qa 0 ca, .int .i64 0, .slice qb 0 cb, .int .i64 0, .slice p4 m c4, .int .i64 0, .slice qc 0 cc, .slice qd 0 cd, .slice none 0 0, .slice none 0 0] := zE0
        have kE2 := kE.grown gE kE.size (fun q hq => by have := Option.some.inj hq; omega)
        have sY := g10.size
        have sE := gE.size
        have o2' := (Own.past_row o2 g10 (by omega)).past_row gE (by omega)
        have o4' := (Own.past_row o4 g10 (by omega)).past_row gE (by omega)
        have hR := run_loadVar_mid (P := Tryz.prog) _ (w.heap.size + 1) 0 32 [.slice p2 n c2, .int .i64 0, .int .i64 0, .slice qa 0 ca, .int .i64 0, .slice qb 0 cb, .int .i64 0, .slice p4 m c4, .int .i64 0, .slice qc 0 cc, .slice qd 0 cd, .slice none 0 0, .slice none 0 0] _ (Cells.range zE) Tryz.underlying32 rfl (sizeWorld _ _ _ _ _ _ _ _ _ _ _ _ _)
        skip
        have l0 := (v10.2 0).1
        have l1 := (v10.2 1).1
        have l2 := (v10.2 2).1
        have l3 := (v10.2 3).1
        have l4 := (v10.2 4).1
        have l5 := (v10.2 5).1
        have l6 := (v10.2 6).1
        have l7 := (v10.2 7).1
        have l8 := (v10.2 8).1
        have l9 := (v10.2 9).1
        have l10 := (v10.2 10).1
        have l11 := (v10.2 11).1
        have l12 := (v10.2 12).1
        have m0 : (wY10).cell? ⟨w.heap.size + 1, 0, none⟩ = some (.slice none 0 0) := (zR.2 0).1
        have f0 := (zR.2 0).2
        have D0 : Cells (wY10.setCell ⟨w.heap.size + 1, 0, none⟩ (.slice p2 n c2)) (w.heap.size + 1) #[.slice p2 n c2, .int .i64 0, .int .i64 0, .slice none 0 0, .int .i64 0, .slice none 0 0, .int .i64 0, .slice none 0 0, .int .i64 0, .slice none 0 0, .slice none 0 0, .slice none 0 0, .slice none 0 0] := zR.set 0 (by simp) (.slice p2 n c2)
        have m1 : ((wY10.setCell ⟨w.heap.size + 1, 0, none⟩ (.slice p2 n c2))).cell? ⟨w.heap.size + 1, 1, none⟩ = some (.int .i64 0) := (D0.2 1).1
        have f1 := (D0.2 1).2
        have D1 : Cells ((wY10.setCell ⟨w.heap.size + 1, 0, none⟩ (.slice p2 n c2)).setCell ⟨w.heap.size + 1, 1, none⟩ (.int .i64 0)) (w.heap.size + 1) #[.slice p2 n c2, .int .i64 0, .int .i64 0, .slice none 0 0, .int .i64 0, .slice none 0 0, .int .i64 0, .slice none 0 0, .int .i64 0, .slice none 0 0, .slice none 0 0, .slice none 0 0, .slice none 0 0] := D0.set 1 (by simp) (.int .i64 0)
        clear D0
        have m2 : (((wY10.setCell ⟨w.heap.size + 1, 0, none⟩ (.slice p2 n c2)).setCell ⟨w.heap.size + 1, 1, none⟩ (.int .i64 0))).cell? ⟨w.heap.size + 1, 2, none⟩ = some (.int .i64 0) := (D1.2 2).1
        have f2 := (D1.2 2).2
        have D2 : Cells (((wY10.setCell ⟨w.heap.size + 1, 0, none⟩ (.slice p2 n c2)).setCell ⟨w.heap.size + 1, 1, none⟩ (.int .i64 0)).setCell ⟨w.heap.size + 1, 2, none⟩ (.int .i64 0)) (w.heap.size + 1) #[.slice p2 n c2, .int .i64 0, .int .i64 0, .slice none 0 0, .int .i64 0, .slice none 0 0, .int .i64 0, .slice none 0 0, .int .i64 0, .slice none 0 0, .slice none 0 0, .slice none 0 0, .slice none 0 0] := D1.set 2 (by simp) (.int .i64 0)
        clear D1
        have m3 : ((((wY10.setCell ⟨w.heap.size + 1, 0, none⟩ (.slice p2 n c2)).setCell ⟨w.heap.size + 1, 1, none⟩ (.int .i64 0)).setCell ⟨w.heap.size + 1, 2, none⟩ (.int .i64 0))).cell? ⟨w.heap.size + 1, 3, none⟩ = some (.slice none 0 0) := (D2.2 3).1
        have f3 := (D2.2 3).2
        have D3 : Cells ((((wY10.setCell ⟨w.heap.size + 1, 0, none⟩ (.slice p2 n c2)).setCell ⟨w.heap.size + 1, 1, none⟩ (.int .i64 0)).setCell ⟨w.heap.size + 1, 2, none⟩ (.int .i64 0)).setCell ⟨w.heap.size + 1, 3, none⟩ (.slice qa 0 ca)) (w.heap.size + 1) #[.slice p2 n c2, .int .i64 0, .int .i64 0, .slice qa 0 ca, .int .i64 0, .slice none 0 0, .int .i64 0, .slice none 0 0, .int .i64 0, .slice none 0 0, .slice none 0 0, .slice none 0 0, .slice none 0 0] := D2.set 3 (by simp) (.slice qa 0 ca)
        clear D2
        have m4 : (((((wY10.setCell ⟨w.heap.size + 1, 0, none⟩ (.slice p2 n c2)).setCell ⟨w.heap.size + 1, 1, none⟩ (.int .i64 0)).setCell ⟨w.heap.size + 1, 2, none⟩ (.int .i64 0)).setCell ⟨w.heap.size + 1, 3, none⟩ (.slice qa 0 ca))).cell? ⟨w.heap.size + 1, 4, none⟩ = some (.int .i64 0) := (D3.2 4).1
        have f4 := (D3.2 4).2
        have D4 : Cells (((((wY10.setCell ⟨w.heap.size + 1, 0, none⟩ (.slice p2 n c2)).setCell ⟨w.heap.size + 1, 1, none⟩ (.int .i64 0)).setCell ⟨w.heap.size + 1, 2, none⟩ (.int .i64 0)).setCell ⟨w.heap.size + 1, 3, none⟩ (.slice qa 0 ca)).setCell ⟨w.heap.size + 1, 4, none⟩ (.int .i64 0)) (w.heap.size + 1) #[.slice p2 n c2, .int .i64 0, .int .i64 0, .slice qa 0 ca, .int .i64 0, .slice none 0 0, .int .i64 0, .slice none 0 0, .int .i64 0, .slice none 0 0, .slice none 0 0, .slice none 0 0, .slice none 0 0] := D3.set 4 (by simp) (.int .i64 0)
        clear D3
        have m5 : ((((((wY10.setCell ⟨w.heap.size + 1, 0, none⟩ (.slice p2 n c2)).setCell ⟨w.heap.size + 1, 1, none⟩ (.int .i64 0)).setCell ⟨w.heap.size + 1, 2, none⟩ (.int .i64 0)).setCell ⟨w.heap.size + 1, 3, none⟩ (.slice qa 0 ca)).setCell ⟨w.heap.size + 1, 4, none⟩ (.int .i64 0))).cell? ⟨w.heap.size + 1, 5, none⟩ = some (.slice none 0 0) := (D4.2 5).1
        have f5 := (D4.2 5).2
        have D5 : Cells ((((((wY10.setCell ⟨w.heap.size + 1, 0, none⟩ (.slice p2 n c2)).setCell ⟨w.heap.size + 1, 1, none⟩ (.int .i64 0)).setCell ⟨w.heap.size + 1, 2, none⟩ (.int .i64 0)).setCell ⟨w.heap.size + 1, 3, none⟩ (.slice qa 0 ca)).setCell ⟨w.heap.size + 1, 4, none⟩ (.int .i64 0)).setCell ⟨w.heap.size + 1, 5, none⟩ (.slice qb 0 cb)) (w.heap.size + 1) #[.slice p2 n c2, .int .i64 0, .int .i64 0, .slice qa 0 ca, .int .i64 0, .slice qb 0 cb, .int .i64 0, .slice none 0 0, .int .i64 0, .slice none 0 0, .slice none 0 0, .slice none 0 0, .slice none 0 0] := D4.set 5 (by simp) (.slice qb 0 cb)
        clear D4
        have m6 : (((((((wY10.setCell ⟨w.heap.size + 1, 0, none⟩ (.slice p2 n c2)).setCell ⟨w.heap.size + 1, 1, none⟩ (.int .i64 0)).setCell ⟨w.heap.size + 1, 2, none⟩ (.int .i64 0)).setCell ⟨w.heap.size + 1, 3, none⟩ (.slice qa 0 ca)).setCell ⟨w.heap.size + 1, 4, none⟩ (.int .i64 0)).setCell ⟨w.heap.size + 1, 5, none⟩ (.slice qb 0 cb))).cell? ⟨w.heap.size + 1, 6, none⟩ = some (.int .i64 0) := (D5.2 6).1
        have f6 := (D5.2 6).2
        have D6 : Cells (((((((wY10.setCell ⟨w.heap.size + 1, 0, none⟩ (.slice p2 n c2)).setCell ⟨w.heap.size + 1, 1, none⟩ (.int .i64 0)).setCell ⟨w.heap.size + 1, 2, none⟩ (.int .i64 0)).setCell ⟨w.heap.size + 1, 3, none⟩ (.slice qa 0 ca)).setCell ⟨w.heap.size + 1, 4, none⟩ (.int .i64 0)).setCell ⟨w.heap.size + 1, 5, none⟩ (.slice qb 0 cb)).setCell ⟨w.heap.size + 1, 6, none⟩ (.int .i64 0)) (w.heap.size + 1) #[.slice p2 n c2, .int .i64 0, .int .i64 0, .slice qa 0 ca, .int .i64 0, .slice qb 0 cb, .int .i64 0, .slice none 0 0, .int .i64 0, .slice none 0 0, .slice none 0 0, .slice none 0 0, .slice none 0 0] := D5.set 6 (by simp) (.int .i64 0)
        clear D5
        have m7 : ((((((((wY10.setCell ⟨w.heap.size + 1, 0, none⟩ (.slice p2 n c2)).setCell ⟨w.heap.size + 1, 1, none⟩ (.int .i64 0)).setCell ⟨w.heap.size + 1, 2, none⟩ (.int .i64 0)).setCell ⟨w.heap.size + 1, 3, none⟩ (.slice qa 0 ca)).setCell ⟨w.heap.size + 1, 4, none⟩ (.int .i64 0)).setCell ⟨w.heap.size + 1, 5, none⟩ (.slice qb 0 cb)).setCell ⟨w.heap.size + 1, 6, none⟩ (.int .i64 0))).cell? ⟨w.heap.size + 1, 7, none⟩ = some (.slice none 0 0) := (D6.2 7).1
        have f7 := (D6.2 7).2
        have D7 : Cells ((((((((wY10.setCell ⟨w.heap.size + 1, 0, none⟩ (.slice p2 n c2)).setCell ⟨w.heap.size + 1, 1, none⟩ (.int .i64 0)).setCell ⟨w.heap.size + 1, 2, none⟩ (.int .i64 0)).setCell ⟨w.heap.size + 1, 3, none⟩ (.slice qa 0 ca)).setCell ⟨w.heap.size + 1, 4, none⟩ (.int .i64 0)).setCell ⟨w.heap.size + 1, 5, none⟩ (.slice qb 0 cb)).setCell ⟨w.heap.size + 1, 6, none⟩ (.int .i64 0)).setCell ⟨w.heap.size + 1, 7, none⟩ (.slice p4 m c4)) (w.heap.size + 1) #[.slice p2 n c2, .int .i64 0, .int .i64 0, .slice qa 0 ca, .int .i64 0, .slice qb 0 cb, .int .i64 0, .slice p4 m c4, .int .i64 0, .slice none 0 0, .slice none 0 0, .slice none 0 0, .slice none 0 0] := D6.set 7 (by simp) (.slice p4 m c4)
        clear D6
        have m8 : (((((((((wY10.setCell ⟨w.heap.size + 1, 0, none⟩ (.slice p2 n c2)).setCell ⟨w.heap.size + 1, 1, none⟩ (.int .i64 0)).setCell ⟨w.heap.size + 1, 2, none⟩ (.int .i64 0)).setCell ⟨w.heap.size + 1, 3, none⟩ (.slice qa 0 ca)).setCell ⟨w.heap.size + 1, 4, none⟩ (.int .i64 0)).setCell ⟨w.heap.size + 1, 5, none⟩ (.slice qb 0 cb)).setCell ⟨w.heap.size + 1, 6, none⟩ (.int .i64 0)).setCell ⟨w.heap.size + 1, 7, none⟩ (.slice p4 m c4))).cell? ⟨w.heap.size + 1, 8, none⟩ = some (.int .i64 0) := (D7.2 8).1
        have f8 := (D7.2 8).2
        have D8 : Cells (((((((((wY10.setCell ⟨w.heap.size + 1, 0, none⟩ (.slice p2 n c2)).setCell ⟨w.heap.size + 1, 1, none⟩ (.int .i64 0)).setCell ⟨w.heap.size + 1, 2, none⟩ (.int .i64 0)).setCell ⟨w.heap.size + 1, 3, none⟩ (.slice qa 0 ca)).setCell ⟨w.heap.size + 1, 4, none⟩ (.int .i64 0)).setCell ⟨w.heap.size + 1, 5, none⟩ (.slice qb 0 cb)).setCell ⟨w.heap.size + 1, 6, none⟩ (.int .i64 0)).setCell ⟨w.heap.size + 1, 7, none⟩ (.slice p4 m c4)).setCell ⟨w.heap.size + 1, 8, none⟩ (.int .i64 0)) (w.heap.size + 1) #[.slice p2 n c2, .int .i64 0, .int .i64 0, .slice qa 0 ca, .int .i64 0, .slice qb 0 cb, .int .i64 0, .slice p4 m c4, .int .i64 0, .slice none 0 0, .slice none 0 0, .slice none 0 0, .slice none 0 0] := D7.set 8 (by simp) (.int .i64 0)
        clear D7
        have m9 : ((((((((((wY10.setCell ⟨w.heap.size + 1, 0, none⟩ (.slice p2 n c2)).setCell ⟨w.heap.size + 1, 1, none⟩ (.int .i64 0)).setCell ⟨w.heap.size + 1, 2, none⟩ (.int .i64 0)).setCell ⟨w.heap.size + 1, 3, none⟩ (.slice qa 0 ca)).setCell ⟨w.heap.size + 1, 4, none⟩ (.int .i64 0)).setCell ⟨w.heap.size + 1, 5, none⟩ (.slice qb 0 cb)).setCell ⟨w.heap.size + 1, 6, none⟩ (.int .i64 0)).setCell ⟨w.heap.size + 1, 7, none⟩ (.slice p4 m c4)).setCell ⟨w.heap.size + 1, 8, none⟩ (.int .i64 0))).cell? ⟨w.heap.size + 1, 9, none⟩ = some (.slice none 0 0) := (D8.2 9).1
        have f9 := (D8.2 9).2
        have D9 : Cells ((((((((((wY10.setCell ⟨w.heap.size + 1, 0, none⟩ (.slice p2 n c2)).setCell ⟨w.heap.size + 1, 1, none⟩ (.int .i64 0)).setCell ⟨w.heap.size + 1, 2, none⟩ (.int .i64 0)).setCell ⟨w.heap.size + 1, 3, none⟩ (.slice qa 0 ca)).setCell ⟨w.heap.size + 1, 4, none⟩ (.int .i64 0)).setCell ⟨w.heap.size + 1, 5, none⟩ (.slice qb 0 cb)).setCell ⟨w.heap.size + 1, 6, none⟩ (.int .i64 0)).setCell ⟨w.heap.size + 1, 7, none⟩ (.slice p4 m c4)).setCell ⟨w.heap.size + 1, 8, none⟩ (.int .i64 0)).setCell ⟨w.heap.size + 1, 9, none⟩ (.slice qc 0 cc)) (w.heap.size + 1) #[.slice p2 n c2, .int .i64 0, .int .i64 0, .slice qa 0 ca, .int .i64 0, .slice qb 0 cb, .int .i64 0, .slice p4 m c4, .int .i64 0, .slice qc 0 cc, .slice none 0 0, .slice none 0 0, .slice none 0 0] := D8.set 9 (by simp) (.slice qc 0 cc)
        clear D8
        have m10 : (((((((((((wY10.setCell ⟨w.heap.size + 1, 0, none⟩ (.slice p2 n c2)).setCell ⟨w.heap.size + 1, 1, none⟩ (.int .i64 0)).setCell ⟨w.heap.size + 1, 2, none⟩ (.int .i64 0)).setCell ⟨w.heap.size + 1, 3, none⟩ (.slice qa 0 ca)).setCell ⟨w.heap.size + 1, 4, none⟩ (.int .i64 0)).setCell ⟨w.heap.size + 1, 5, none⟩ (.slice qb 0 cb)).setCell ⟨w.heap.size + 1, 6, none⟩ (.int .i64 0)).setCell ⟨w.heap.size + 1, 7, none⟩ (.slice p4 m c4)).setCell ⟨w.heap.size + 1, 8, none⟩ (.int .i64 0)).setCell ⟨w.heap.size + 1, 9, none⟩ (.slice qc 0 cc))).cell? ⟨w.heap.size + 1, 10, none⟩ = some (.slice none 0 0) := (D9.2 10).1
        have f10 := (D9.2 10).2
        have D10 : Cells (((((((((((wY10.setCell ⟨w.heap.size + 1, 0, none⟩ (.slice p2 n c2)).setCell ⟨w.heap.size + 1, 1, none⟩ (.int .i64 0)).setCell ⟨w.heap.size + 1, 2, none⟩ (.int .i64 0)).setCell ⟨w.heap.size + 1, 3, none⟩ (.slice qa 0 ca)).setCell ⟨w.heap.size + 1, 4, none⟩ (.int .i64 0)).setCell ⟨w.heap.size + 1, 5, none⟩ (.slice qb 0 cb)).setCell ⟨w.heap.size + 1, 6, none⟩ (.int .i64 0)).setCell ⟨w.heap.size + 1, 7, none⟩ (.slice p4 m c4)).setCell ⟨w.heap.size + 1, 8, none⟩ (.int .i64 0)).setCell ⟨w.heap.size + 1, 9, none⟩ (.slice qc 0 cc)).setCell ⟨w.heap.size + 1, 10, none⟩ (.slice qd 0 cd)) (w.heap.size + 1) #[.slice p2 n c2, .int .i64 0, .int .i64 0, .slice qa 0 ca, .int .i64 0, .slice qb 0 cb, .int .i64 0, .slice p4 m c4, .int .i64 0, .slice qc 0 cc, .slice qd 0 cd, .slice none 0 0, .slice none 0 0] := D9.set 10 (by simp) (.slice qd 0 cd)
        clear D9
        have m11 : ((((((((((((wY10.setCell ⟨w.heap.size + 1, 0, none⟩ (.slice p2 n c2)).setCell ⟨w.heap.size + 1, 1, none⟩ (.int .i64 0)).setCell ⟨w.heap.size + 1, 2, none⟩ (.int .i64 0)).setCell ⟨w.heap.size + 1, 3, none⟩ (.slice qa 0 ca)).setCell ⟨w.heap.size + 1, 4, none⟩ (.int .i64 0)).setCell ⟨w.heap.size + 1, 5, none⟩ (.slice qb 0 cb)).setCell ⟨w.heap.size + 1, 6, none⟩ (.int .i64 0)).setCell ⟨w.heap.size + 1, 7, none⟩ (.slice p4 m c4)).setCell ⟨w.heap.size + 1, 8, none⟩ (.int .i64 0)).setCell ⟨w.heap.size + 1, 9, none⟩ (.slice qc 0 cc)).setCell ⟨w.heap.size + 1, 10, none⟩ (.slice qd 0 cd))).cell? ⟨w.heap.size + 1, 11, none⟩ = some (.slice none 0 0) := (D10.2 11).1
        have f11 := (D10.2 11).2
        have D11 : Cells ((((((((((((wY10.setCell ⟨w.heap.size + 1, 0, none⟩ (.slice p2 n c2)).setCell ⟨w.heap.size + 1, 1, none⟩ (.int .i64 0)).setCell ⟨w.heap.size + 1, 2, none⟩ (.int .i64 0)).setCell ⟨w.heap.size + 1, 3, none⟩ (.slice qa 0 ca)).setCell ⟨w.heap.size + 1, 4, none⟩ (.int .i64 0)).setCell ⟨w.heap.size + 1, 5, none⟩ (.slice qb 0 cb)).setCell ⟨w.heap.size + 1, 6, none⟩ (.int .i64 0)).setCell ⟨w.heap.size + 1, 7, none⟩ (.slice p4 m c4)).setCell ⟨w.heap.size + 1, 8, none⟩ (.int .i64 0)).setCell ⟨w.heap.size + 1, 9, none⟩ (.slice qc 0 cc)).setCell ⟨w.heap.size + 1, 10, none⟩ (.slice qd 0 cd)).setCell ⟨w.heap.size + 1, 11, none⟩ (.slice none 0 0)) (w.heap.size + 1) #[.slice p2 n c2, .int .i64 0, .int .i64 0, .slice qa 0 ca, .int .i64 0, .slice qb 0 cb, .int .i64 0, .slice p4 m c4, .int .i64 0, .slice qc 0 cc, .slice qd 0 cd, .slice none 0 0, .slice none 0 0] := D10.set 11 (by simp) (.slice none 0 0)
        clear D10
        have m12 : (((((((((((((wY10.setCell ⟨w.heap.size + 1, 0, none⟩ (.slice p2 n c2)).setCell ⟨w.heap.size + 1, 1, none⟩ (.int .i64 0)).setCell ⟨w.heap.size + 1, 2, none⟩ (.int .i64 0)).setCell ⟨w.heap.size + 1, 3, none⟩ (.slice qa 0 ca)).setCell ⟨w.heap.size + 1, 4, none⟩ (.int .i64 0)).setCell ⟨w.heap.size + 1, 5, none⟩ (.slice qb 0 cb)).setCell ⟨w.heap.size + 1, 6, none⟩ (.int .i64 0)).setCell ⟨w.heap.size + 1, 7, none⟩ (.slice p4 m c4)).setCell ⟨w.heap.size + 1, 8, none⟩ (.int .i64 0)).setCell ⟨w.heap.size + 1, 9, none⟩ (.slice qc 0 cc)).setCell ⟨w.heap.size + 1, 10, none⟩ (.slice qd 0 cd)).setCell ⟨w.heap.size + 1, 11, none⟩ (.slice none 0 0))).cell? ⟨w.heap.size + 1, 12, none⟩ = some (.slice none 0 0) := (D11.2 12).1
        have f12 := (D11.2 12).2
        have D12 : Cells (((((((((((((wY10.setCell ⟨w.heap.size + 1, 0, none⟩ (.slice p2 n c2)).setCell ⟨w.heap.size + 1, 1, none⟩ (.int .i64 0)).setCell ⟨w.heap.size + 1, 2, none⟩ (.int .i64 0)).setCell ⟨w.heap.size + 1, 3, none⟩ (.slice qa 0 ca)).setCell ⟨w.heap.size + 1, 4, none⟩ (.int .i64 0)).setCell ⟨w.heap.size + 1, 5, none⟩ (.slice qb 0 cb)).setCell ⟨w.heap.size + 1, 6, none⟩ (.int .i64 0)).setCell ⟨w.heap.size + 1, 7, none⟩ (.slice p4 m c4)).setCell ⟨w.heap.size + 1, 8, none⟩ (.int .i64 0)).setCell ⟨w.heap.size + 1, 9, none⟩ (.slice qc 0 cc)).setCell ⟨w.heap.size + 1, 10, none⟩ (.slice qd 0 cd)).setCell ⟨w.heap.size + 1, 11, none⟩ (.slice none 0 0)).setCell ⟨w.heap.size + 1, 12, none⟩ (.slice none 0 0)) (w.heap.size + 1) #[.slice p2 n c2, .int .i64 0, .int .i64 0, .slice qa 0 ca, .int .i64 0, .slice qb 0 cb, .int .i64 0, .slice p4 m c4, .int .i64 0, .slice qc 0 cc, .slice qd 0 cd, .slice none 0 0, .slice none 0 0] := D11.set 12 (by simp) (.slice none 0 0)
        clear D11
        clear D12
        clear gE0 zE0 gE zE kE zR bW C0 C1 C2 i0 i1 kT CZ kw
        go_wp2_with (fail)
        refine wp_loop_rounds 1 ?_
        rw [rounds_succ]
        go_wp2_with (fail)
        refine wp_loop_rounds 1 ?_
        rw [rounds_succ]
        go_wp2_with (fail)
        (try simp only [Exit.inBlock, Exit.then])
        refine bodyPost_ret (v := .agg #[.slice p2 n c2, .int .i64 0, .int .i64 0, .slice qa 0 ca, .int .i64 0, .slice qb 0 cb, .int .i64 0, .slice p4 m c4, .int .i64 0, .slice qc 0 cc, .slice qd 0 cd, .slice none 0 0, .slice none 0 0]) ?_ rfl ⟨p2, c2, qa, ca, qb, cb, p4, c4, qc, cc, qd, cd, _, rfl, Own.widen o2' (by omega) (Nat.le_refl _), Own.widen o4' (by omega) (by omega), kE2⟩
        simp [results, asAddr, hR]
      · go_simp
        have z11 := Cells.made wY4 #[.slice none 0 0, .int .i64 0, .int .i64 0, .slice none 0 0, .int .i64 0, .slice none 0 0, .int .i64 0, .slice none 0 0, .int .i64 0, .slice none 0 0, .slice none 0 0, .slice none 0 0, .slice none 0 0] 32
        have b11 : Below wY4.heap.size wY4 (wY4.alloc (.cells #[.slice none 0 0, .int .i64 0, .int .i64 0, .slice none 0 0, .int .i64 0, .slice none 0 0, .int .i64 0, .slice none 0 0, .int .i64 0, .slice none 0 0, .slice none 0 0, .slice none 0 0, .slice none 0 0] 32)) := (Below.refl _ _).alloc (Nat.le_refl _) _
        have kwY11 := below_on kwY4 b11
        have t11 := t4.on b11
        have s11 := b11.size
        have u11 := z11.1
        (try replace o2 := o2.on b11)
        (try replace o4 := o4.on b11)
        refine hK.out _ _ t11 (fun _ => trivial) ?_
        clear hK K
        generalize wY4.alloc (.cells #[.slice none 0 0, .int .i64 0, .int .i64 0, .slice none 0 0, .int .i64 0, .slice none 0 0, .int .i64 0, .slice none 0 0, .int .i64 0, .slice none 0 0, .slice none 0 0, .slice none 0 0, .slice none 0 0] 32) = wY11 at *
        have gW : W.heap.size ≤ wY4.heap.size := kwY4.size
        have ne : w.heap.size ≠ wY4.heap.size := by have u1 := kT.1; omega
        refine anyT_one (i := 12) (by kernel_rfl) rfl (fun K hK => ?_)
        go_simp
        refine (C2 _ kwY11).mono ?_
        rintro e wY13 ⟨p4, c4, qc, cc, qd, cd, rfl, r4, b13⟩
        have kwY13 := below_on kwY11 b13
        have t13 := t11.on b13
        have s13 := b13.size
        (try replace o2 := o2.on b13)
        (try replace o4 := o4.on b13)
        have o4 := r4
        have z13 := z11.on b13
        go_wp2_with (fail)
        refine hK.out _ _ t13 (fun _ => trivial) ?_
        clear hK K
        refine anyT_takeT (i := 13) (v := .agg #[.slice p2 n c2, .int .i64 0, .int .i64 0, .slice qa 0 ca, .int .i64 0, .slice qb 0 cb, .int .i64 0, .slice p4 m c4, .int .i64 0, .slice qc 0 cc, .slice qd 0 cd, .slice none 0 0, .slice none 0 0]) rfl (by kernel_rfl) (by kernel_rfl) (by kernel_rfl) (by kernel_rfl) (fun _ _ _ h => h) (Or.inl ⟨by rfl, fun X hSw => by (go_simp)⟩) t13 (fun _ => trivial) ?_
        (try simp only [Act.put, List.getElem_toArray, List.getElem_cons_zero, List.getElem_cons_succ, List.setIfInBounds_toArray, List.set_cons_zero, List.set_cons_succ])
        refine anyT_one (i := 15) (by kernel_rfl) rfl (fun K hK => ?_)
        have g15 := setCells_grown (wY4.heap.size) [.slice p2 n c2, .int .i64 0, .int .i64 0, .slice qa 0 ca, .int .i64 0, .slice qb 0 cb, .int .i64 0, .slice p4 m c4, .int .i64 0, .slice qc 0 cc, .slice qd 0 cd, .slice none 0 0, .slice none 0 0] 0 wY13
        have v15 := Cells.setAll z13 [.slice p2 n c2, .int .i64 0, .int .i64 0, .slice qa 0 ca, .int .i64 0, .slice qb 0 cb, .int .i64 0, .slice p4 m c4, .int .i64 0, .slice qc 0 cc, .slice qd 0 cd, .slice none 0 0, .slice none 0 0] rfl
        have t15 := Cells.grown t13 g15 (fun h => ne (Option.some.inj h))
        refine wp_store_mid 32 _ _ rfl (wY4.heap.size) 0 #[.slice p2 n c2, .int .i64 0, .int .i64 0, .slice qa 0 ca, .int .i64 0, .slice qb 0 cb, .int .i64 0, .slice p4 m c4, .int .i64 0, .slice qc 0 cc, .slice qd 0 cd, .slice none 0 0, .slice none 0 0] rfl rfl z13.there (sizeWorld _ _ _ _ _ _ _ _ _ _ _ _ _) (all_oneCell_toArray (by simp [Value.oneCell'])) ?_
        refine hK.out _ _ t15 (fun _ => trivial) ?_
        clear hK K
        refine anyT_done (by kernel_rfl) ?_ _
        refine NoPanic.normal ?_
        obtain ⟨wY15, hwY15⟩ : ∃ Y, Y = wY13.setCells (wY4.heap.size) 0 [.slice p2 n c2, .int .i64 0, .int .i64 0, .slice qa 0 ca, .int .i64 0, .slice qb 0 cb, .int .i64 0, .slice p4 m c4, .int .i64 0, .slice qc 0 cc, .slice qd 0 cd, .slice none 0 0, .slice none 0 0] := ⟨_, rfl⟩
        rw [← hwY15] at g15 v15 t15
        rw [show wY13.setCells (wY4.heap.size) 0 (#[.slice p2 n c2, .int .i64 0, .int .i64 0, .slice qa 0 ca, .int .i64 0, .slice qb 0 cb, .int .i64 0, .slice p4 m c4, .int .i64 0, .slice qc 0 cc, .slice qd 0 cd, .slice none 0 0, .slice none 0 0]).toList = wY15 from hwY15.symm]
        clear hwY15
        have y0 : wY15.cell? ⟨w.heap.size, 11, none⟩ = some (.slice none 0 0) := (t15.2 11).1
        have y1 : wY15.cell? ⟨w.heap.size, 12, none⟩ = some (.slice none 0 0) := (t15.2 12).1
        have neR : w.heap.size + 1 ≠ wY4.heap.size := by omega
        have zR := (CZ.on kwY13).grown g15 (fun h => neR (Option.some.inj h))
        have gE0 := setCells_grown (w.heap.size + 1) [.slice p2 n c2, .int .i64 0, .int .i64 0, .slice qa 0 ca, .int .i64 0, .slice qb 0 cb, .int .i64 0, .slice p4 m c4, .int .i64 0, .slice qc 0 cc, .slice qd 0 cd, .slice none 0 0, .slice none 0 0] 0 wY15
        have zE0 := Cells.setAll zR [.slice p2 n c2, .int .i64 0, .int .i64 0, .slice qa 0 ca, .int .i64 0, .slice qb 0 cb, .int .i64 0, .slice p4 m c4, .int .i64 0, .slice qc 0 cc, .slice qd 0 cd, .slice none 0 0, .slice none 0 0] rfl
        have kE : Below w.heap.size w wY15 := (below_on kw kwY13).grown g15 (below_on kw kwY13).size (fun q hq => by have := Option.some.inj hq; omega)
        have gE : World.grownBy wY15 ((((((((((((((wY15.setCell ⟨w.heap.size + 1, 0, none⟩ (.slice p2 n c2)).setCell ⟨w.heap.size + 1, 1, none⟩ (.int .i64 0)).setCell ⟨w.heap.size + 1, 2, none⟩ (.int .i64 0)).setCell ⟨w.heap.size + 1, 3, none⟩ (.slice qa 0 ca)).setCell ⟨w.heap.size + 1, 4, none⟩ (.int .i64 0)).setCell ⟨w.heap.size + 1, 5, none⟩ (.slice qb 0 cb)).setCell ⟨w.heap.size + 1, 6, none⟩ (.int .i64 0)).setCell ⟨w.heap.size + 1, 7, none⟩ (.slice p4 m c4)).setCell ⟨w.heap.size + 1, 8, none⟩ (.int .i64 0)).setCell ⟨w.heap.size + 1, 9, none⟩ (.slice qc 0 cc)).setCell ⟨w.heap.size + 1, 10, none⟩ (.slice qd 0 cd)).setCell ⟨w.heap.size + 1, 11, none⟩ (.slice none 0 0)).setCell ⟨w.heap.size + 1, 12, none⟩ (.slice none 0 0))) (some (w.heap.size + 1)) := gE0
        have zE : Cells ((((((((((((((wY15.setCell ⟨w.heap.size + 1, 0, none⟩ (.slice p2 n c2)).setCell ⟨w.heap.size + 1, 1, none⟩ (.int .i64 0)).setCell ⟨w.heap.size + 1, 2, none⟩ (.int .i64 0)).setCell ⟨w.heap.size + 1, 3, none⟩ (.slice qa 0 ca)).setCell ⟨w.heap.size + 1, 4, none⟩ (.int .i64 0)).setCell ⟨w.heap.size + 1, 5, none⟩ (.slice qb 0 cb)).setCell ⟨w.heap.size + 1, 6, none⟩ (.int .i64 0)).setCell ⟨w.heap.size + 1, 7, none⟩ (.slice p4 m c4)).setCell ⟨w.heap.size + 1, 8, none⟩ (.int .i64 0)).setCell ⟨w.heap.size + 1, 9, none⟩ (.slice qc 0 cc)).setCell ⟨w.heap.size + 1, 10, none⟩ (.slice qd 0 cd)).setCell ⟨w.heap.size + 1, 11, none⟩ (.slice none 0 0)).setCell ⟨w.heap.size + 1, 12, none⟩ (.slice none 0 0))) (w.heap.size + 1) #[.slice p2 n c2, .int .i64 0, .int .i64 0, .slice qa 0 ca, .int .i64 0, .slice qb 0 cb, .int .i64 0, .slice p4 m c4, .int .i64 0, .slice qc 0 cc, .slice qd 0 cd, .slice none 0 0, .slice none 0 0] := zE0
        have kE2 := kE.grown gE kE.size (fun q hq => by have := Option.some.inj hq; omega)
        have sY := g15.size
        have sE := gE.size
        have o2' := (Own.past_row o2 g15 (by omega)).past_row gE (by omega)
        have o4' := (Own.past_row o4 g15 (by omega)).past_row gE (by omega)
        have hR := run_loadVar_mid (P := Tryz.prog) _ (w.heap.size + 1) 0 32 [.slice p2 n c2, .int .i64 0, .int .i64 0, .slice qa 0 ca, .int .i64 0, .slice qb 0 cb, .int .i64 0, .slice p4 m c4, .int .i64 0, .slice qc 0 cc, .slice qd 0 cd, .slice none 0 0, .slice none 0 0] _ (Cells.range zE) Tryz.underlying32 rfl (sizeWorld _ _ _ _ _ _ _ _ _ _ _ _ _)
        skip
        have l0 := (v15.2 0).1
        have l1 := (v15.2 1).1
        have l2 := (v15.2 2).1
        have l3 := (v15.2 3).1
        have l4 := (v15.2 4).1
        have l5 := (v15.2 5).1
        have l6 := (v15.2 6).1
        have l7 := (v15.2 7).1
        have l8 := (v15.2 8).1
        have l9 := (v15.2 9).1
        have l10 := (v15.2 10).1
        have l11 := (v15.2 11).1
        have l12 := (v15.2 12).1
        have m0 : (wY15).cell? ⟨w.heap.size + 1, 0, none⟩ = some (.slice none 0 0) := (zR.2 0).1
        have f0 := (zR.2 0).2
        have D0 : Cells (wY15.setCell ⟨w.heap.size + 1, 0, none⟩ (.slice p2 n c2)) (w.heap.size + 1) #[.slice p2 n c2, .int .i64 0, .int .i64 0, .slice none 0 0, .int .i64 0, .slice none 0 0, .int .i64 0, .slice none 0 0, .int .i64 0, .slice none 0 0, .slice none 0 0, .slice none 0 0, .slice none 0 0] := zR.set 0 (by simp) (.slice p2 n c2)
        have m1 : ((wY15.setCell ⟨w.heap.size + 1, 0, none⟩ (.slice p2 n c2))).cell? ⟨w.heap.size + 1, 1, none⟩ = some (.int .i64 0) := (D0.2 1).1
        have f1 := (D0.2 1).2
        have D1 : Cells ((wY15.setCell ⟨w.heap.size + 1, 0, none⟩ (.slice p2 n c2)).setCell ⟨w.heap.size + 1, 1, none⟩ (.int .i64 0)) (w.heap.size + 1) #[.slice p2 n c2, .int .i64 0, .int .i64 0, .slice none 0 0, .int .i64 0, .slice none 0 0, .int .i64 0, .slice none 0 0, .int .i64 0, .slice none 0 0, .slice none 0 0, .slice none 0 0, .slice none 0 0] := D0.set 1 (by simp) (.int .i64 0)
        clear D0
        have m2 : (((wY15.setCell ⟨w.heap.size + 1, 0, none⟩ (.slice p2 n c2)).setCell ⟨w.heap.size + 1, 1, none⟩ (.int .i64 0))).cell? ⟨w.heap.size + 1, 2, none⟩ = some (.int .i64 0) := (D1.2 2).1
        have f2 := (D1.2 2).2
        have D2 : Cells (((wY15.setCell ⟨w.heap.size + 1, 0, none⟩ (.slice p2 n c2)).setCell ⟨w.heap.size + 1, 1, none⟩ (.int .i64 0)).setCell ⟨w.heap.size + 1, 2, none⟩ (.int .i64 0)) (w.heap.size + 1) #[.slice p2 n c2, .int .i64 0, .int .i64 0, .slice none 0 0, .int .i64 0, .slice none 0 0, .int .i64 0, .slice none 0 0, .int .i64 0, .slice none 0 0, .slice none 0 0, .slice none 0 0, .slice none 0 0] := D1.set 2 (by simp) (.int .i64 0)
        clear D1
        have m3 : ((((wY15.setCell ⟨w.heap.size + 1, 0, none⟩ (.slice p2 n c2)).setCell ⟨w.heap.size + 1, 1, none⟩ (.int .i64 0)).setCell ⟨w.heap.size + 1, 2, none⟩ (.int .i64 0))).cell? ⟨w.heap.size + 1, 3, none⟩ = some (.slice none 0 0) := (D2.2 3).1
        have f3 := (D2.2 3).2
        have D3 : Cells ((((wY15.setCell ⟨w.heap.size + 1, 0, none⟩ (.slice p2 n c2)).setCell ⟨w.heap.size + 1, 1, none⟩ (.int .i64 0)).setCell ⟨w.heap.size + 1, 2, none⟩ (.int .i64 0)).setCell ⟨w.heap.size + 1, 3, none⟩ (.slice qa 0 ca)) (w.heap.size + 1) #[.slice p2 n c2, .int .i64 0, .int .i64 0, .slice qa 0 ca, .int .i64 0, .slice none 0 0, .int .i64 0, .slice none 0 0, .int .i64 0, .slice none 0 0, .slice none 0 0, .slice none 0 0, .slice none 0 0] := D2.set 3 (by simp) (.slice qa 0 ca)
        clear D2
        have m4 : (((((wY15.setCell ⟨w.heap.size + 1, 0, none⟩ (.slice p2 n c2)).setCell ⟨w.heap.size + 1, 1, none⟩ (.int .i64 0)).setCell ⟨w.heap.size + 1, 2, none⟩ (.int .i64 0)).setCell ⟨w.heap.size + 1, 3, none⟩ (.slice qa 0 ca))).cell? ⟨w.heap.size + 1, 4, none⟩ = some (.int .i64 0) := (D3.2 4).1
        have f4 := (D3.2 4).2
        have D4 : Cells (((((wY15.setCell ⟨w.heap.size + 1, 0, none⟩ (.slice p2 n c2)).setCell ⟨w.heap.size + 1, 1, none⟩ (.int .i64 0)).setCell ⟨w.heap.size + 1, 2, none⟩ (.int .i64 0)).setCell ⟨w.heap.size + 1, 3, none⟩ (.slice qa 0 ca)).setCell ⟨w.heap.size + 1, 4, none⟩ (.int .i64 0)) (w.heap.size + 1) #[.slice p2 n c2, .int .i64 0, .int .i64 0, .slice qa 0 ca, .int .i64 0, .slice none 0 0, .int .i64 0, .slice none 0 0, .int .i64 0, .slice none 0 0, .slice none 0 0, .slice none 0 0, .slice none 0 0] := D3.set 4 (by simp) (.int .i64 0)
        clear D3
        have m5 : ((((((wY15.setCell ⟨w.heap.size + 1, 0, none⟩ (.slice p2 n c2)).setCell ⟨w.heap.size + 1, 1, none⟩ (.int .i64 0)).setCell ⟨w.heap.size + 1, 2, none⟩ (.int .i64 0)).setCell ⟨w.heap.size + 1, 3, none⟩ (.slice qa 0 ca)).setCell ⟨w.heap.size + 1, 4, none⟩ (.int .i64 0))).cell? ⟨w.heap.size + 1, 5, none⟩ = some (.slice none 0 0) := (D4.2 5).1
        have f5 := (D4.2 5).2
        have D5 : Cells ((((((wY15.setCell ⟨w.heap.size + 1, 0, none⟩ (.slice p2 n c2)).setCell ⟨w.heap.size + 1, 1, none⟩ (.int .i64 0)).setCell ⟨w.heap.size + 1, 2, none⟩ (.int .i64 0)).setCell ⟨w.heap.size + 1, 3, none⟩ (.slice qa 0 ca)).setCell ⟨w.heap.size + 1, 4, none⟩ (.int .i64 0)).setCell ⟨w.heap.size + 1, 5, none⟩ (.slice qb 0 cb)) (w.heap.size + 1) #[.slice p2 n c2, .int .i64 0, .int .i64 0, .slice qa 0 ca, .int .i64 0, .slice qb 0 cb, .int .i64 0, .slice none 0 0, .int .i64 0, .slice none 0 0, .slice none 0 0, .slice none 0 0, .slice none 0 0] := D4.set 5 (by simp) (.slice qb 0 cb)
        clear D4
        have m6 : (((((((wY15.setCell ⟨w.heap.size + 1, 0, none⟩ (.slice p2 n c2)).setCell ⟨w.heap.size + 1, 1, none⟩ (.int .i64 0)).setCell ⟨w.heap.size + 1, 2, none⟩ (.int .i64 0)).setCell ⟨w.heap.size + 1, 3, none⟩ (.slice qa 0 ca)).setCell ⟨w.heap.size + 1, 4, none⟩ (.int .i64 0)).setCell ⟨w.heap.size + 1, 5, none⟩ (.slice qb 0 cb))).cell? ⟨w.heap.size + 1, 6, none⟩ = some (.int .i64 0) := (D5.2 6).1
        have f6 := (D5.2 6).2
        have D6 : Cells (((((((wY15.setCell ⟨w.heap.size + 1, 0, none⟩ (.slice p2 n c2)).setCell ⟨w.heap.size + 1, 1, none⟩ (.int .i64 0)).setCell ⟨w.heap.size + 1, 2, none⟩ (.int .i64 0)).setCell ⟨w.heap.size + 1, 3, none⟩ (.slice qa 0 ca)).setCell ⟨w.heap.size + 1, 4, none⟩ (.int .i64 0)).setCell ⟨w.heap.size + 1, 5, none⟩ (.slice qb 0 cb)).setCell ⟨w.heap.size + 1, 6, none⟩ (.int .i64 0)) (w.heap.size + 1) #[.slice p2 n c2, .int .i64 0, .int .i64 0, .slice qa 0 ca, .int .i64 0, .slice qb 0 cb, .int .i64 0, .slice none 0 0, .int .i64 0, .slice none 0 0, .slice none 0 0, .slice none 0 0, .slice none 0 0] := D5.set 6 (by simp) (.int .i64 0)
        clear D5
        have m7 : ((((((((wY15.setCell ⟨w.heap.size + 1, 0, none⟩ (.slice p2 n c2)).setCell ⟨w.heap.size + 1, 1, none⟩ (.int .i64 0)).setCell ⟨w.heap.size + 1, 2, none⟩ (.int .i64 0)).setCell ⟨w.heap.size + 1, 3, none⟩ (.slice qa 0 ca)).setCell ⟨w.heap.size + 1, 4, none⟩ (.int .i64 0)).setCell ⟨w.heap.size + 1, 5, none⟩ (.slice qb 0 cb)).setCell ⟨w.heap.size + 1, 6, none⟩ (.int .i64 0))).cell? ⟨w.heap.size + 1, 7, none⟩ = some (.slice none 0 0) := (D6.2 7).1
        have f7 := (D6.2 7).2
        have D7 : Cells ((((((((wY15.setCell ⟨w.heap.size + 1, 0, none⟩ (.slice p2 n c2)).setCell ⟨w.heap.size + 1, 1, none⟩ (.int .i64 0)).setCell ⟨w.heap.size + 1, 2, none⟩ (.int .i64 0)).setCell ⟨w.heap.size + 1, 3, none⟩ (.slice qa 0 ca)).setCell ⟨w.heap.size + 1, 4, none⟩ (.int .i64 0)).setCell ⟨w.heap.size + 1, 5, none⟩ (.slice qb 0 cb)).setCell ⟨w.heap.size + 1, 6, none⟩ (.int .i64 0)).setCell ⟨w.heap.size + 1, 7, none⟩ (.slice p4 m c4)) (w.heap.size + 1) #[.slice p2 n c2, .int .i64 0, .int .i64 0, .slice qa 0 ca, .int .i64 0, .slice qb 0 cb, .int .i64 0, .slice p4 m c4, .int .i64 0, .slice none 0 0, .slice none 0 0, .slice none 0 0, .slice none 0 0] := D6.set 7 (by simp) (.slice p4 m c4)
        clear D6
        have m8 : (((((((((wY15.setCell ⟨w.heap.size + 1, 0, none⟩ (.slice p2 n c2)).setCell ⟨w.heap.size + 1, 1, none⟩ (.int .i64 0)).setCell ⟨w.heap.size + 1, 2, none⟩ (.int .i64 0)).setCell ⟨w.heap.size + 1, 3, none⟩ (.slice qa 0 ca)).setCell ⟨w.heap.size + 1, 4, none⟩ (.int .i64 0)).setCell ⟨w.heap.size + 1, 5, none⟩ (.slice qb 0 cb)).setCell ⟨w.heap.size + 1, 6, none⟩ (.int .i64 0)).setCell ⟨w.heap.size + 1, 7, none⟩ (.slice p4 m c4))).cell? ⟨w.heap.size + 1, 8, none⟩ = some (.int .i64 0) := (D7.2 8).1
        have f8 := (D7.2 8).2
        have D8 : Cells (((((((((wY15.setCell ⟨w.heap.size + 1, 0, none⟩ (.slice p2 n c2)).setCell ⟨w.heap.size + 1, 1, none⟩ (.int .i64 0)).setCell ⟨w.heap.size + 1, 2, none⟩ (.int .i64 0)).setCell ⟨w.heap.size + 1, 3, none⟩ (.slice qa 0 ca)).setCell ⟨w.heap.size + 1, 4, none⟩ (.int .i64 0)).setCell ⟨w.heap.size + 1, 5, none⟩ (.slice qb 0 cb)).setCell ⟨w.heap.size + 1, 6, none⟩ (.int .i64 0)).setCell ⟨w.heap.size + 1, 7, none⟩ (.slice p4 m c4)).setCell ⟨w.heap.size + 1, 8, none⟩ (.int .i64 0)) (w.heap.size + 1) #[.slice p2 n c2, .int .i64 0, .int .i64 0, .slice qa 0 ca, .int .i64 0, .slice qb 0 cb, .int .i64 0, .slice p4 m c4, .int .i64 0, .slice none 0 0, .slice none 0 0, .slice none 0 0, .slice none 0 0] := D7.set 8 (by simp) (.int .i64 0)
        clear D7
        have m9 : ((((((((((wY15.setCell ⟨w.heap.size + 1, 0, none⟩ (.slice p2 n c2)).setCell ⟨w.heap.size + 1, 1, none⟩ (.int .i64 0)).setCell ⟨w.heap.size + 1, 2, none⟩ (.int .i64 0)).setCell ⟨w.heap.size + 1, 3, none⟩ (.slice qa 0 ca)).setCell ⟨w.heap.size + 1, 4, none⟩ (.int .i64 0)).setCell ⟨w.heap.size + 1, 5, none⟩ (.slice qb 0 cb)).setCell ⟨w.heap.size + 1, 6, none⟩ (.int .i64 0)).setCell ⟨w.heap.size + 1, 7, none⟩ (.slice p4 m c4)).setCell ⟨w.heap.size + 1, 8, none⟩ (.int .i64 0))).cell? ⟨w.heap.size + 1, 9, none⟩ = some (.slice none 0 0) := (D8.2 9).1
        have f9 := (D8.2 9).2
        have D9 : Cells ((((((((((wY15.setCell ⟨w.heap.size + 1, 0, none⟩ (.slice p2 n c2)).setCell ⟨w.heap.size + 1, 1, none⟩ (.int .i64 0)).setCell ⟨w.heap.size + 1, 2, none⟩ (.int .i64 0)).setCell ⟨w.heap.size + 1, 3, none⟩ (.slice qa 0 ca)).setCell ⟨w.heap.size + 1, 4, none⟩ (.int .i64 0)).setCell ⟨w.heap.size + 1, 5, none⟩ (.slice qb 0 cb)).setCell ⟨w.heap.size + 1, 6, none⟩ (.int .i64 0)).setCell ⟨w.heap.size + 1, 7, none⟩ (.slice p4 m c4)).setCell ⟨w.heap.size + 1, 8, none⟩ (.int .i64 0)).setCell ⟨w.heap.size + 1, 9, none⟩ (.slice qc 0 cc)) (w.heap.size + 1) #[.slice p2 n c2, .int .i64 0, .int .i64 0, .slice qa 0 ca, .int .i64 0, .slice qb 0 cb, .int .i64 0, .slice p4 m c4, .int .i64 0, .slice qc 0 cc, .slice none 0 0, .slice none 0 0, .slice none 0 0] := D8.set 9 (by simp) (.slice qc 0 cc)
        clear D8
        have m10 : (((((((((((wY15.setCell ⟨w.heap.size + 1, 0, none⟩ (.slice p2 n c2)).setCell ⟨w.heap.size + 1, 1, none⟩ (.int .i64 0)).setCell ⟨w.heap.size + 1, 2, none⟩ (.int .i64 0)).setCell ⟨w.heap.size + 1, 3, none⟩ (.slice qa 0 ca)).setCell ⟨w.heap.size + 1, 4, none⟩ (.int .i64 0)).setCell ⟨w.heap.size + 1, 5, none⟩ (.slice qb 0 cb)).setCell ⟨w.heap.size + 1, 6, none⟩ (.int .i64 0)).setCell ⟨w.heap.size + 1, 7, none⟩ (.slice p4 m c4)).setCell ⟨w.heap.size + 1, 8, none⟩ (.int .i64 0)).setCell ⟨w.heap.size + 1, 9, none⟩ (.slice qc 0 cc))).cell? ⟨w.heap.size + 1, 10, none⟩ = some (.slice none 0 0) := (D9.2 10).1
        have f10 := (D9.2 10).2
        have D10 : Cells (((((((((((wY15.setCell ⟨w.heap.size + 1, 0, none⟩ (.slice p2 n c2)).setCell ⟨w.heap.size + 1, 1, none⟩ (.int .i64 0)).setCell ⟨w.heap.size + 1, 2, none⟩ (.int .i64 0)).setCell ⟨w.heap.size + 1, 3, none⟩ (.slice qa 0 ca)).setCell ⟨w.heap.size + 1, 4, none⟩ (.int .i64 0)).setCell ⟨w.heap.size + 1, 5, none⟩ (.slice qb 0 cb)).setCell ⟨w.heap.size + 1, 6, none⟩ (.int .i64 0)).setCell ⟨w.heap.size + 1, 7, none⟩ (.slice p4 m c4)).setCell ⟨w.heap.size + 1, 8, none⟩ (.int .i64 0)).setCell ⟨w.heap.size + 1, 9, none⟩ (.slice qc 0 cc)).setCell ⟨w.heap.size + 1, 10, none⟩ (.slice qd 0 cd)) (w.heap.size + 1) #[.slice p2 n c2, .int .i64 0, .int .i64 0, .slice qa 0 ca, .int .i64 0, .slice qb 0 cb, .int .i64 0, .slice p4 m c4, .int .i64 0, .slice qc 0 cc, .slice qd 0 cd, .slice none 0 0, .slice none 0 0] := D9.set 10 (by simp) (.slice qd 0 cd)
        clear D9
        have m11 : ((((((((((((wY15.setCell ⟨w.heap.size + 1, 0, none⟩ (.slice p2 n c2)).setCell ⟨w.heap.size + 1, 1, none⟩ (.int .i64 0)).setCell ⟨w.heap.size + 1, 2, none⟩ (.int .i64 0)).setCell ⟨w.heap.size + 1, 3, none⟩ (.slice qa 0 ca)).setCell ⟨w.heap.size + 1, 4, none⟩ (.int .i64 0)).setCell ⟨w.heap.size + 1, 5, none⟩ (.slice qb 0 cb)).setCell ⟨w.heap.size + 1, 6, none⟩ (.int .i64 0)).setCell ⟨w.heap.size + 1, 7, none⟩ (.slice p4 m c4)).setCell ⟨w.heap.size + 1, 8, none⟩ (.int .i64 0)).setCell ⟨w.heap.size + 1, 9, none⟩ (.slice qc 0 cc)).setCell ⟨w.heap.size + 1, 10, none⟩ (.slice qd 0 cd))).cell? ⟨w.heap.size + 1, 11, none⟩ = some (.slice none 0 0) := (D10.2 11).1
        have f11 := (D10.2 11).2
        have D11 : Cells ((((((((((((wY15.setCell ⟨w.heap.size + 1, 0, none⟩ (.slice p2 n c2)).setCell ⟨w.heap.size + 1, 1, none⟩ (.int .i64 0)).setCell ⟨w.heap.size + 1, 2, none⟩ (.int .i64 0)).setCell ⟨w.heap.size + 1, 3, none⟩ (.slice qa 0 ca)).setCell ⟨w.heap.size + 1, 4, none⟩ (.int .i64 0)).setCell ⟨w.heap.size + 1, 5, none⟩ (.slice qb 0 cb)).setCell ⟨w.heap.size + 1, 6, none⟩ (.int .i64 0)).setCell ⟨w.heap.size + 1, 7, none⟩ (.slice p4 m c4)).setCell ⟨w.heap.size + 1, 8, none⟩ (.int .i64 0)).setCell ⟨w.heap.size + 1, 9, none⟩ (.slice qc 0 cc)).setCell ⟨w.heap.size + 1, 10, none⟩ (.slice qd 0 cd)).setCell ⟨w.heap.size + 1, 11, none⟩ (.slice none 0 0)) (w.heap.size + 1) #[.slice p2 n c2, .int .i64 0, .int .i64 0, .slice qa 0 ca, .int .i64 0, .slice qb 0 cb, .int .i64 0, .slice p4 m c4, .int .i64 0, .slice qc 0 cc, .slice qd 0 cd, .slice none 0 0, .slice none 0 0] := D10.set 11 (by simp) (.slice none 0 0)
        clear D10
        have m12 : (((((((((((((wY15.setCell ⟨w.heap.size + 1, 0, none⟩ (.slice p2 n c2)).setCell ⟨w.heap.size + 1, 1, none⟩ (.int .i64 0)).setCell ⟨w.heap.size + 1, 2, none⟩ (.int .i64 0)).setCell ⟨w.heap.size + 1, 3, none⟩ (.slice qa 0 ca)).setCell ⟨w.heap.size + 1, 4, none⟩ (.int .i64 0)).setCell ⟨w.heap.size + 1, 5, none⟩ (.slice qb 0 cb)).setCell ⟨w.heap.size + 1, 6, none⟩ (.int .i64 0)).setCell ⟨w.heap.size + 1, 7, none⟩ (.slice p4 m c4)).setCell ⟨w.heap.size + 1, 8, none⟩ (.int .i64 0)).setCell ⟨w.heap.size + 1, 9, none⟩ (.slice qc 0 cc)).setCell ⟨w.heap.size + 1, 10, none⟩ (.slice qd 0 cd)).setCell ⟨w.heap.size + 1, 11, none⟩ (.slice none 0 0))).cell? ⟨w.heap.size + 1, 12, none⟩ = some (.slice none 0 0) := (D11.2 12).1
        have f12 := (D11.2 12).2
        have D12 : Cells (((((((((((((wY15.setCell ⟨w.heap.size + 1, 0, none⟩ (.slice p2 n c2)).setCell ⟨w.heap.size + 1, 1, none⟩ (.int .i64 0)).setCell ⟨w.heap.size + 1, 2, none⟩ (.int .i64 0)).setCell ⟨w.heap.size + 1, 3, none⟩ (.slice qa 0 ca)).setCell ⟨w.heap.size + 1, 4, none⟩ (.int .i64 0)).setCell ⟨w.heap.size + 1, 5, none⟩ (.slice qb 0 cb)).setCell ⟨w.heap.size + 1, 6, none⟩ (.int .i64 0)).setCell ⟨w.heap.size + 1, 7, none⟩ (.slice p4 m c4)).setCell ⟨w.heap.size + 1, 8, none⟩ (.int .i64 0)).setCell ⟨w.heap.size + 1, 9, none⟩ (.slice qc 0 cc)).setCell ⟨w.heap.size + 1, 10, none⟩ (.slice qd 0 cd)).setCell ⟨w.heap.size + 1, 11, none⟩ (.slice none 0 0)).setCell ⟨w.heap.size + 1, 12, none⟩ (.slice none 0 0)) (w.heap.size + 1) #[.slice p2 n c2, .int .i64 0, .int .i64 0, .slice qa 0 ca, .int .i64 0, .slice qb 0 cb, .int .i64 0, .slice p4 m c4, .int .i64 0, .slice qc 0 cc, .slice qd 0 cd, .slice none 0 0, .slice none 0 0] := D11.set 12 (by simp) (.slice none 0 0)
        clear D11
        clear D12
        clear gE0 zE0 gE zE kE zR bW C0 C1 C2 i0 i1 kT CZ kw
        go_wp2_with (fail)
        refine wp_loop_rounds 1 ?_
        rw [rounds_succ]
        go_wp2_with (fail)
        refine wp_loop_rounds 1 ?_
        rw [rounds_succ]
        go_wp2_with (fail)
        (try simp only [Exit.inBlock, Exit.then])
        refine bodyPost_ret (v := .agg #[.slice p2 n c2, .int .i64 0, .int .i64 0, .slice qa 0 ca, .int .i64 0, .slice qb 0 cb, .int .i64 0, .slice p4 m c4, .int .i64 0, .slice qc 0 cc, .slice qd 0 cd, .slice none 0 0, .slice none 0 0]) ?_ rfl ⟨p2, c2, qa, ca, qb, cb, p4, c4, qc, cc, qd, cd, _, rfl, Own.widen o2' (by omega) (Nat.le_refl _), Own.widen o4' (by omega) (by omega), kE2⟩
        simp [results, asAddr, hR]
    · go_simp
      have z16 := Cells.made wY2 #[.slice none 0 0, .int .i64 0, .int .i64 0, .slice none 0 0, .int .i64 0, .slice none 0 0, .int .i64 0, .slice none 0 0, .int .i64 0, .slice none 0 0, .slice none 0 0, .slice none 0 0, .slice none 0 0] 32
      have b16 : Below wY2.heap.size wY2 (wY2.alloc (.cells #[.slice none 0 0, .int .i64 0, .int .i64 0, .slice none 0 0, .int .i64 0, .slice none 0 0, .int .i64 0, .slice none 0 0, .int .i64 0, .slice none 0 0, .slice none 0 0, .slice none 0 0, .slice none 0 0] 32)) := (Below.refl _ _).alloc (Nat.le_refl _) _
      have kwY16 := below_on kwY2 b16
      have t16 := t2.on b16
      have s16 := b16.size
      have u16 := z16.1
      (try replace o2 := o2.on b16)
      (try replace o4 := o4.on b16)
      refine hK.out _ _ t16 (fun _ => trivial) ?_
      clear hK K
      generalize wY2.alloc (.cells #[.slice none 0 0, .int .i64 0, .int .i64 0, .slice none 0 0, .int .i64 0, .slice none 0 0, .int .i64 0, .slice none 0 0, .int .i64 0, .slice none 0 0, .slice none 0 0, .slice none 0 0, .slice none 0 0] 32) = wY16 at *
      have gW : W.heap.size ≤ wY2.heap.size := kwY2.size
      have ne : w.heap.size ≠ wY2.heap.size := by have u1 := kT.1; omega
      refine anyT_one (i := 9) (by kernel_rfl) rfl (fun K hK => ?_)
      go_simp
      refine (C1 _).mono ?_
      rintro e wY18 ⟨qa, ca, qb, cb, rfl, r3, b18⟩
      have kwY18 := below_on kwY16 b18
      have t18 := t16.on b18
      have s18 := b18.size
      (try replace o2 := o2.on b18)
      (try replace o4 := o4.on b18)
      have z18 := z16.on b18
      go_wp2_with (fail)
      refine hK.out _ _ t18 (fun _ => trivial) ?_
      clear hK K
      refine anyT_one (i := 12) (by kernel_rfl) rfl (fun K hK => ?_)
      go_simp
      refine (C2 _ kwY18).mono ?_
      rintro e wY20 ⟨p4, c4, qc, cc, qd, cd, rfl, r4, b20⟩
      have kwY20 := below_on kwY18 b20
      have t20 := t18.on b20
      have s20 := b20.size
      (try replace o2 := o2.on b20)
      (try replace o4 := o4.on b20)
      have o4 := r4
      have z20 := z18.on b20
      go_wp2_with (fail)
      refine hK.out _ _ t20 (fun _ => trivial) ?_
      clear hK K
      refine anyT_takeT (i := 13) (v := .agg #[.slice p2 n c2, .int .i64 0, .int .i64 0, .slice qa 0 ca, .int .i64 0, .slice qb 0 cb, .int .i64 0, .slice p4 m c4, .int .i64 0, .slice qc 0 cc, .slice qd 0 cd, .slice none 0 0, .slice none 0 0]) rfl (by kernel_rfl) (by kernel_rfl) (by kernel_rfl) (by kernel_rfl) (fun _ _ _ h => h) (Or.inl ⟨by rfl, fun X hSw => by (go_simp)⟩) t20 (fun _ => trivial) ?_
      (try simp only [Act.put, List.getElem_toArray, List.getElem_cons_zero, List.getElem_cons_succ, List.setIfInBounds_toArray, List.set_cons_zero, List.set_cons_succ])
      refine anyT_one (i := 15) (by kernel_rfl) rfl (fun K hK => ?_)
      have g22 := setCells_grown (wY2.heap.size) [.slice p2 n c2, .int .i64 0, .int .i64 0, .slice qa 0 ca, .int .i64 0, .slice qb 0 cb, .int .i64 0, .slice p4 m c4, .int .i64 0, .slice qc 0 cc, .slice qd 0 cd, .slice none 0 0, .slice none 0 0] 0 wY20
      have v22 := Cells.setAll z20 [.slice p2 n c2, .int .i64 0, .int .i64 0, .slice qa 0 ca, .int .i64 0, .slice qb 0 cb, .int .i64 0, .slice p4 m c4, .int .i64 0, .slice qc 0 cc, .slice qd 0 cd, .slice none 0 0, .slice none 0 0] rfl
      have t22 := Cells.grown t20 g22 (fun h => ne (Option.some.inj h))
      refine wp_store_mid 32 _ _ rfl (wY2.heap.size) 0 #[.slice p2 n c2, .int .i64 0, .int .i64 0, .slice qa 0 ca, .int .i64 0, .slice qb 0 cb, .int .i64 0, .slice p4 m c4, .int .i64 0, .slice qc 0 cc, .slice qd 0 cd, .slice none 0 0, .slice none 0 0] rfl rfl z20.there (sizeWorld _ _ _ _ _ _ _ _ _ _ _ _ _) (all_oneCell_toArray (by simp [Value.oneCell'])) ?_
      refine hK.out _ _ t22 (fun _ => trivial) ?_
      clear hK K
      refine anyT_done (by kernel_rfl) ?_ _
      refine NoPanic.normal ?_
      obtain ⟨wY22, hwY22⟩ : ∃ Y, Y = wY20.setCells (wY2.heap.size) 0 [.slice p2 n c2, .int .i64 0, .int .i64 0, .slice qa 0 ca, .int .i64 0, .slice qb 0 cb, .int .i64 0, .slice p4 m c4, .int .i64 0, .slice qc 0 cc, .slice qd 0 cd, .slice none 0 0, .slice none 0 0] := ⟨_, rfl⟩
      rw [← hwY22] at g22 v22 t22
      rw [show wY20.setCells (wY2.heap.size) 0 (#[.slice p2 n c2, .int .i64 0, .int .i64 0, .slice qa 0 ca, .int .i64 0, .slice qb 0 cb, .int .i64 0, .slice p4 m c4, .int .i64 0, .slice qc 0 cc, .slice qd 0 cd, .slice none 0 0, .slice none 0 0]).toList = wY22 from hwY22.symm]
      clear hwY22
      have y0 : wY22.cell? ⟨w.heap.size, 11, none⟩ = some (.slice none 0 0) := (t22.2 11).1
      have y1 : wY22.cell? ⟨w.heap.size, 12, none⟩ = some (.slice none 0 0) := (t22.2 12).1
      have neR : w.heap.size + 1 ≠ wY2.heap.size := by omega
      have zR := (CZ.on kwY20).grown g22 (fun h => neR (Option.some.inj h))
      have gE0 := setCells_grown (w.heap.size + 1) [.slice p2 n c2, .int .i64 0, .int .i64 0, .slice qa 0 ca, .int .i64 0, .slice qb 0 cb, .int .i64 0, .slice p4 m c4, .int .i64 0, .slice qc 0 cc, .slice qd 0 cd, .slice none 0 0, .slice none 0 0] 0 wY22
      have zE0 := Cells.setAll zR [.slice p2 n c2, .int .i64 0, .int .i64 0, .slice qa 0 ca, .int .i64 0, .slice qb 0 cb, .int .i64 0, .slice p4 m c4, .int .i64 0, .slice qc 0 cc, .slice qd 0 cd, .slice none 0 0, .slice none 0 0] rfl
      have kE : Below w.heap.size w wY22 := (below_on kw kwY20).grown g22 (below_on kw kwY20).size (fun q hq => by have := Option.some.inj hq; omega)
      have gE : World.grownBy wY22 ((((((((((((((wY22.setCell ⟨w.heap.size + 1, 0, none⟩ (.slice p2 n c2)).setCell ⟨w.heap.size + 1, 1, none⟩ (.int .i64 0)).setCell ⟨w.heap.size + 1, 2, none⟩ (.int .i64 0)).setCell ⟨w.heap.size + 1, 3, none⟩ (.slice qa 0 ca)).setCell ⟨w.heap.size + 1, 4, none⟩ (.int .i64 0)).setCell ⟨w.heap.size + 1, 5, none⟩ (.slice qb 0 cb)).setCell ⟨w.heap.size + 1, 6, none⟩ (.int .i64 0)).setCell ⟨w.heap.size + 1, 7, none⟩ (.slice p4 m c4)).setCell ⟨w.heap.size + 1, 8, none⟩ (.int .i64 0)).setCell ⟨w.heap.size + 1, 9, none⟩ (.slice qc 0 cc)).setCell ⟨w.heap.size + 1, 10, none⟩ (.slice qd 0 cd)).setCell ⟨w.heap.size + 1, 11, none⟩ (.slice none 0 0)).setCell ⟨w.heap.size + 1, 12, none⟩ (.slice none 0 0))) (some (w.heap.size + 1)) := gE0
      have zE : Cells ((((((((((((((wY22.setCell ⟨w.heap.size + 1, 0, none⟩ (.slice p2 n c2)).setCell ⟨w.heap.size + 1, 1, none⟩ (.int .i64 0)).setCell ⟨w.heap.size + 1, 2, none⟩ (.int .i64 0)).setCell ⟨w.heap.size + 1, 3, none⟩ (.slice qa 0 ca)).setCell ⟨w.heap.size + 1, 4, none⟩ (.int .i64 0)).setCell ⟨w.heap.size + 1, 5, none⟩ (.slice qb 0 cb)).setCell ⟨w.heap.size + 1, 6, none⟩ (.int .i64 0)).setCell ⟨w.heap.size + 1, 7, none⟩ (.slice p4 m c4)).setCell ⟨w.heap.size + 1, 8, none⟩ (.int .i64 0)).setCell ⟨w.heap.size + 1, 9, none⟩ (.slice qc 0 cc)).setCell ⟨w.heap.size + 1, 10, none⟩ (.slice qd 0 cd)).setCell ⟨w.heap.size + 1, 11, none⟩ (.slice none 0 0)).setCell ⟨w.heap.size + 1, 12, none⟩ (.slice none 0 0))) (w.heap.size + 1) #[.slice p2 n c2, .int .i64 0, .int .i64 0, .slice qa 0 ca, .int .i64 0, .slice qb 0 cb, .int .i64 0, .slice p4 m c4, .int .i64 0, .slice qc 0 cc, .slice qd 0 cd, .slice none 0 0, .slice none 0 0] := zE0
      have kE2 := kE.grown gE kE.size (fun q hq => by have := Option.some.inj hq; omega)
      have sY := g22.size
      have sE := gE.size
      have o2' := (Own.past_row o2 g22 (by omega)).past_row gE (by omega)
      have o4' := (Own.past_row o4 g22 (by omega)).past_row gE (by omega)
      have hR := run_loadVar_mid (P := Tryz.prog) _ (w.heap.size + 1) 0 32 [.slice p2 n c2, .int .i64 0, .int .i64 0, .slice qa 0 ca, .int .i64 0, .slice qb 0 cb, .int .i64 0, .slice p4 m c4, .int .i64 0, .slice qc 0 cc, .slice qd 0 cd, .slice none 0 0, .slice none 0 0] _ (Cells.range zE) Tryz.underlying32 rfl (sizeWorld _ _ _ _ _ _ _ _ _ _ _ _ _)
      skip
      have l0 := (v22.2 0).1
      have l1 := (v22.2 1).1
      have l2 := (v22.2 2).1
      have l3 := (v22.2 3).1
      have l4 := (v22.2 4).1
      have l5 := (v22.2 5).1
      have l6 := (v22.2 6).1
      have l7 := (v22.2 7).1
      have l8 := (v22.2 8).1
      have l9 := (v22.2 9).1
      have l10 := (v22.2 10).1
      have l11 := (v22.2 11).1
      have l12 := (v22.2 12).1
      have m0 : (wY22).cell? ⟨w.heap.size + 1, 0, none⟩ = some (.slice none 0 0) := (zR.2 0).1
      have f0 := (zR.2 0).2
      have D0 : Cells (wY22.setCell ⟨w.heap.size + 1, 0, none⟩ (.slice p2 n c2)) (w.heap.size + 1) #[.slice p2 n c2, .int .i64 0, .int .i64 0, .slice none 0 0, .int .i64 0, .slice none 0 0, .int .i64 0, .slice none 0 0, .int .i64 0, .slice none 0 0, .slice none 0 0, .slice none 0 0, .slice none 0 0] := zR.set 0 (by simp) (.slice p2 n c2)
      have m1 : ((wY22.setCell ⟨w.heap.size + 1, 0, none⟩ (.slice p2 n c2))).cell? ⟨w.heap.size + 1, 1, none⟩ = some (.int .i64 0) := (D0.2 1).1
      have f1 := (D0.2 1).2
      have D1 : Cells ((wY22.setCell ⟨w.heap.size + 1, 0, none⟩ (.slice p2 n c2)).setCell ⟨w.heap.size + 1, 1, none⟩ (.int .i64 0)) (w.heap.size + 1) #[.slice p2 n c2, .int .i64 0, .int .i64 0, .slice none 0 0, .int .i64 0, .slice none 0 0, .int .i64 0, .slice none 0 0, .int .i64 0, .slice none 0 0, .slice none 0 0, .slice none 0 0, .slice none 0 0] := D0.set 1 (by simp) (.int .i64 0)
      clear D0
      have m2 : (((wY22.setCell ⟨w.heap.size + 1, 0, none⟩ (.slice p2 n c2)).setCell ⟨w.heap.size + 1, 1, none⟩ (.int .i64 0))).cell? ⟨w.heap.size + 1, 2, none⟩ = some (.int .i64 0) := (D1.2 2).1
      have f2 := (D1.2 2).2
      have D2 : Cells (((wY22.setCell ⟨w.heap.size + 1, 0, none⟩ (.slice p2 n c2)).setCell ⟨w.heap.size + 1, 1, none⟩ (.int .i64 0)).setCell ⟨w.heap.size + 1, 2, none⟩ (.int .i64 0)) (w.heap.size + 1) #[.slice p2 n c2, .int .i64 0, .int .i64 0, .slice none 0 0, .int .i64 0, .slice none 0 0, .int .i64 0, .slice none 0 0, .int .i64 0, .slice none 0 0, .slice none 0 0, .slice none 0 0, .slice none 0 0] := D1.set 2 (by simp) (.int .i64 0)
      clear D1
      have m3 : ((((wY22.setCell ⟨w.heap.size + 1, 0, none⟩ (.slice p2 n c2)).setCell ⟨w.heap.size + 1, 1, none⟩ (.int .i64 0)).setCell ⟨w.heap.size + 1, 2, none⟩ (.int .i64 0))).cell? ⟨w.heap.size + 1, 3, none⟩ = some (.slice none 0 0) := (D2.2 3).1
      have f3 := (D2.2 3).2
      have D3 : Cells ((((wY22.setCell ⟨w.heap.size + 1, 0, none⟩ (.slice p2 n c2)).setCell ⟨w.heap.size + 1, 1, none⟩ (.int .i64 0)).setCell ⟨w.heap.size + 1, 2, none⟩ (.int .i64 0)).setCell ⟨w.heap.size + 1, 3, none⟩ (.slice qa 0 ca)) (w.heap.size + 1) #[.slice p2 n c2, .int .i64 0, .int .i64 0, .slice qa 0 ca, .int .i64 0, .slice none 0 0, .int .i64 0, .slice none 0 0, .int .i64 0, .slice none 0 0, .slice none 0 0, .slice none 0 0, .slice none 0 0] := D2.set 3 (by simp) (.slice qa 0 ca)
      clear D2
      have m4 : (((((wY22.setCell ⟨w.heap.size + 1, 0, none⟩ (.slice p2 n c2)).setCell ⟨w.heap.size + 1, 1, none⟩ (.int .i64 0)).setCell ⟨w.heap.size + 1, 2, none⟩ (.int .i64 0)).setCell ⟨w.heap.size + 1, 3, none⟩ (.slice qa 0 ca))).cell? ⟨w.heap.size + 1, 4, none⟩ = some (.int .i64 0) := (D3.2 4).1
      have f4 := (D3.2 4).2
      have D4 : Cells (((((wY22.setCell ⟨w.heap.size + 1, 0, none⟩ (.slice p2 n c2)).setCell ⟨w.heap.size + 1, 1, none⟩ (.int .i64 0)).setCell ⟨w.heap.size + 1, 2, none⟩ (.int .i64 0)).setCell ⟨w.heap.size + 1, 3, none⟩ (.slice qa 0 ca)).setCell ⟨w.heap.size + 1, 4, none⟩ (.int .i64 0)) (w.heap.size + 1) #[.slice p2 n c2, .int .i64 0, .int .i64 0, .slice qa 0 ca, .int .i64 0, .slice none 0 0, .int .i64 0, .slice none 0 0, .int .i64 0, .slice none 0 0, .slice none 0 0, .slice none 0 0, .slice none 0 0] := D3.set 4 (by simp) (.int .i64 0)
      clear D3
      have m5 : ((((((wY22.setCell ⟨w.heap.size + 1, 0, none⟩ (.slice p2 n c2)).setCell ⟨w.heap.size + 1, 1, none⟩ (.int .i64 0)).setCell ⟨w.heap.size + 1, 2, none⟩ (.int .i64 0)).setCell ⟨w.heap.size + 1, 3, none⟩ (.slice qa 0 ca)).setCell ⟨w.heap.size + 1, 4, none⟩ (.int .i64 0))).cell? ⟨w.heap.size + 1, 5, none⟩ = some (.slice none 0 0) := (D4.2 5).1
      have f5 := (D4.2 5).2
      have D5 : Cells ((((((wY22.setCell ⟨w.heap.size + 1, 0, none⟩ (.slice p2 n c2)).setCell ⟨w.heap.size + 1, 1, none⟩ (.int .i64 0)).setCell ⟨w.heap.size + 1, 2, none⟩ (.int .i64 0)).setCell ⟨w.heap.size + 1, 3, none⟩ (.slice qa 0 ca)).setCell ⟨w.heap.size + 1, 4, none⟩ (.int .i64 0)).setCell ⟨w.heap.size + 1, 5, none⟩ (.slice qb 0 cb)) (w.heap.size + 1) #[.slice p2 n c2, .int .i64 0, .int .i64 0, .slice qa 0 ca, .int .i64 0, .slice qb 0 cb, .int .i64 0, .slice none 0 0, .int .i64 0, .slice none 0 0, .slice none 0 0, .slice none 0 0, .slice none 0 0] := D4.set 5 (by simp) (.slice qb 0 cb)
      clear D4
      have m6 : (((((((wY22.setCell ⟨w.heap.size + 1, 0, none⟩ (.slice p2 n c2)).setCell ⟨w.heap.size + 1, 1, none⟩ (.int .i64 0)).setCell ⟨w.heap.size + 1, 2, none⟩ (.int .i64 0)).setCell ⟨w.heap.size + 1, 3, none⟩ (.slice qa 0 ca)).setCell ⟨w.heap.size + 1, 4, none⟩ (.int .i64 0)).setCell ⟨w.heap.size + 1, 5, none⟩ (.slice qb 0 cb))).cell? ⟨w.heap.size + 1, 6, none⟩ = some (.int .i64 0) := (D5.2 6).1
      have f6 := (D5.2 6).2
      have D6 : Cells (((((((wY22.setCell ⟨w.heap.size + 1, 0, none⟩ (.slice p2 n c2)).setCell ⟨w.heap.size + 1, 1, none⟩ (.int .i64 0)).setCell ⟨w.heap.size + 1, 2, none⟩ (.int .i64 0)).setCell ⟨w.heap.size + 1, 3, none⟩ (.slice qa 0 ca)).setCell ⟨w.heap.size + 1, 4, none⟩ (.int .i64 0)).setCell ⟨w.heap.size + 1, 5, none⟩ (.slice qb 0 cb)).setCell ⟨w.heap.size + 1, 6, none⟩ (.int .i64 0)) (w.heap.size + 1) #[.slice p2 n c2, .int .i64 0, .int .i64 0, .slice qa 0 ca, .int .i64 0, .slice qb 0 cb, .int .i64 0, .slice none 0 0, .int .i64 0, .slice none 0 0, .slice none 0 0, .slice none 0 0, .slice none 0 0] := D5.set 6 (by simp) (.int .i64 0)
      clear D5
      have m7 : ((((((((wY22.setCell ⟨w.heap.size + 1, 0, none⟩ (.slice p2 n c2)).setCell ⟨w.heap.size + 1, 1, none⟩ (.int .i64 0)).setCell ⟨w.heap.size + 1, 2, none⟩ (.int .i64 0)).setCell ⟨w.heap.size + 1, 3, none⟩ (.slice qa 0 ca)).setCell ⟨w.heap.size + 1, 4, none⟩ (.int .i64 0)).setCell ⟨w.heap.size + 1, 5, none⟩ (.slice qb 0 cb)).setCell ⟨w.heap.size + 1, 6, none⟩ (.int .i64 0))).cell? ⟨w.heap.size + 1, 7, none⟩ = some (.slice none 0 0) := (D6.2 7).1
      have f7 := (D6.2 7).2
      have D7 : Cells ((((((((wY22.setCell ⟨w.heap.size + 1, 0, none⟩ (.slice p2 n c2)).setCell ⟨w.heap.size + 1, 1, none⟩ (.int .i64 0)).setCell ⟨w.heap.size + 1, 2, none⟩ (.int .i64 0)).setCell ⟨w.heap.size + 1, 3, none⟩ (.slice qa 0 ca)).setCell ⟨w.heap.size + 1, 4, none⟩ (.int .i64 0)).setCell ⟨w.heap.size + 1, 5, none⟩ (.slice qb 0 cb)).setCell ⟨w.heap.size + 1, 6, none⟩ (.int .i64 0)).setCell ⟨w.heap.size + 1, 7, none⟩ (.slice p4 m c4)) (w.heap.size + 1) #[.slice p2 n c2, .int .i64 0, .int .i64 0, .slice qa 0 ca, .int .i64 0, .slice qb 0 cb, .int .i64 0, .slice p4 m c4, .int .i64 0, .slice none 0 0, .slice none 0 0, .slice none 0 0, .slice none 0 0] := D6.set 7 (by simp) (.slice p4 m c4)
      clear D6
      have m8 : (((((((((wY22.setCell ⟨w.heap.size + 1, 0, none⟩ (.slice p2 n c2)).setCell ⟨w.heap.size + 1, 1, none⟩ (.int .i64 0)).setCell ⟨w.heap.size + 1, 2, none⟩ (.int .i64 0)).setCell ⟨w.heap.size + 1, 3, none⟩ (.slice qa 0 ca)).setCell ⟨w.heap.size + 1, 4, none⟩ (.int .i64 0)).setCell ⟨w.heap.size + 1, 5, none⟩ (.slice qb 0 cb)).setCell ⟨w.heap.size + 1, 6, none⟩ (.int .i64 0)).setCell ⟨w.heap.size + 1, 7, none⟩ (.slice p4 m c4))).cell? ⟨w.heap.size + 1, 8, none⟩ = some (.int .i64 0) := (D7.2 8).1
      have f8 := (D7.2 8).2
      have D8 : Cells (((((((((wY22.setCell ⟨w.heap.size + 1, 0, none⟩ (.slice p2 n c2)).setCell ⟨w.heap.size + 1, 1, none⟩ (.int .i64 0)).setCell ⟨w.heap.size + 1, 2, none⟩ (.int .i64 0)).setCell ⟨w.heap.size + 1, 3, none⟩ (.slice qa 0 ca)).setCell ⟨w.heap.size + 1, 4, none⟩ (.int .i64 0)).setCell ⟨w.heap.size + 1, 5, none⟩ (.slice qb 0 cb)).setCell ⟨w.heap.size + 1, 6, none⟩ (.int .i64 0)).setCell ⟨w.heap.size + 1, 7, none⟩ (.slice p4 m c4)).setCell ⟨w.heap.size + 1, 8, none⟩ (.int .i64 0)) (w.heap.size + 1) #[.slice p2 n c2, .int .i64 0, .int .i64 0, .slice qa 0 ca, .int .i64 0, .slice qb 0 cb, .int .i64 0, .slice p4 m c4, .int .i64 0, .slice none 0 0, .slice none 0 0, .slice none 0 0, .slice none 0 0] := D7.set 8 (by simp) (.int .i64 0)
      clear D7
      have m9 : ((((((((((wY22.setCell ⟨w.heap.size + 1, 0, none⟩ (.slice p2 n c2)).setCell ⟨w.heap.size + 1, 1, none⟩ (.int .i64 0)).setCell ⟨w.heap.size + 1, 2, none⟩ (.int .i64 0)).setCell ⟨w.heap.size + 1, 3, none⟩ (.slice qa 0 ca)).setCell ⟨w.heap.size + 1, 4, none⟩ (.int .i64 0)).setCell ⟨w.heap.size + 1, 5, none⟩ (.slice qb 0 cb)).setCell ⟨w.heap.size + 1, 6, none⟩ (.int .i64 0)).setCell ⟨w.heap.size + 1, 7, none⟩ (.slice p4 m c4)).setCell ⟨w.heap.size + 1, 8, none⟩ (.int .i64 0))).cell? ⟨w.heap.size + 1, 9, none⟩ = some (.slice none 0 0) := (D8.2 9).1
      have f9 := (D8.2 9).2
      have D9 : Cells ((((((((((wY22.setCell ⟨w.heap.size + 1, 0, none⟩ (.slice p2 n c2)).setCell ⟨w.heap.size + 1, 1, none⟩ (.int .i64 0)).setCell ⟨w.heap.size + 1, 2, none⟩ (.int .i64 0)).setCell ⟨w.heap.size + 1, 3, none⟩ (.slice qa 0 ca)).setCell ⟨w.heap.size + 1, 4, none⟩ (.int .i64 0)).setCell ⟨w.heap.size + 1, 5, none⟩ (.slice qb 0 cb)).setCell ⟨w.heap.size + 1, 6, none⟩ (.int .i64 0)).setCell ⟨w.heap.size + 1, 7, none⟩ (.slice p4 m c4)).setCell ⟨w.heap.size + 1, 8, none⟩ (.int .i64 0)).setCell ⟨w.heap.size + 1, 9, none⟩ (.slice qc 0 cc)) (w.heap.size + 1) #[.slice p2 n c2, .int .i64 0, .int .i64 0, .slice qa 0 ca, .int .i64 0, .slice qb 0 cb, .int .i64 0, .slice p4 m c4, .int .i64 0, .slice qc 0 cc, .slice none 0 0, .slice none 0 0, .slice none 0 0] := D8.set 9 (by simp) (.slice qc 0 cc)
      clear D8
      have m10 : (((((((((((wY22.setCell ⟨w.heap.size + 1, 0, none⟩ (.slice p2 n c2)).setCell ⟨w.heap.size + 1, 1, none⟩ (.int .i64 0)).setCell ⟨w.heap.size + 1, 2, none⟩ (.int .i64 0)).setCell ⟨w.heap.size + 1, 3, none⟩ (.slice qa 0 ca)).setCell ⟨w.heap.size + 1, 4, none⟩ (.int .i64 0)).setCell ⟨w.heap.size + 1, 5, none⟩ (.slice qb 0 cb)).setCell ⟨w.heap.size + 1, 6, none⟩ (.int .i64 0)).setCell ⟨w.heap.size + 1, 7, none⟩ (.slice p4 m c4)).setCell ⟨w.heap.size + 1, 8, none⟩ (.int .i64 0)).setCell ⟨w.heap.size + 1, 9, none⟩ (.slice qc 0 cc))).cell? ⟨w.heap.size + 1, 10, none⟩ = some (.slice none 0 0) := (D9.2 10).1
      have f10 := (D9.2 10).2
      have D10 : Cells (((((((((((wY22.setCell ⟨w.heap.size + 1, 0, none⟩ (.slice p2 n c2)).setCell ⟨w.heap.size + 1, 1, none⟩ (.int .i64 0)).setCell ⟨w.heap.size + 1, 2, none⟩ (.int .i64 0)).setCell ⟨w.heap.size + 1, 3, none⟩ (.slice qa 0 ca)).setCell ⟨w.heap.size + 1, 4, none⟩ (.int .i64 0)).setCell ⟨w.heap.size + 1, 5, none⟩ (.slice qb 0 cb)).setCell ⟨w.heap.size + 1, 6, none⟩ (.int .i64 0)).setCell ⟨w.heap.size + 1, 7, none⟩ (.slice p4 m c4)).setCell ⟨w.heap.size + 1, 8, none⟩ (.int .i64 0)).setCell ⟨w.heap.size + 1, 9, none⟩ (.slice qc 0 cc)).setCell ⟨w.heap.size + 1, 10, none⟩ (.slice qd 0 cd)) (w.heap.size + 1) #[.slice p2 n c2, .int .i64 0, .int .i64 0, .slice qa 0 ca, .int .i64 0, .slice qb 0 cb, .int .i64 0, .slice p4 m c4, .int .i64 0, .slice qc 0 cc, .slice qd 0 cd, .slice none 0 0, .slice none 0 0] := D9.set 10 (by simp) (.slice qd 0 cd)
      clear D9
      have m11 : ((((((((((((wY22.setCell ⟨w.heap.size + 1, 0, none⟩ (.slice p2 n c2)).setCell ⟨w.heap.size + 1, 1, none⟩ (.int .i64 0)).setCell ⟨w.heap.size + 1, 2, none⟩ (.int .i64 0)).setCell ⟨w.heap.size + 1, 3, none⟩ (.slice qa 0 ca)).setCell ⟨w.heap.size + 1, 4, none⟩ (.int .i64 0)).setCell ⟨w.heap.size + 1, 5, none⟩ (.slice qb 0 cb)).setCell ⟨w.heap.size + 1, 6, none⟩ (.int .i64 0)).setCell ⟨w.heap.size + 1, 7, none⟩ (.slice p4 m c4)).setCell ⟨w.heap.size + 1, 8, none⟩ (.int .i64 0)).setCell ⟨w.heap.size + 1, 9, none⟩ (.slice qc 0 cc)).setCell ⟨w.heap.size + 1, 10, none⟩ (.slice qd 0 cd))).cell? ⟨w.heap.size + 1, 11, none⟩ = some (.slice none 0 0) := (D10.2 11).1
      have f11 := (D10.2 11).2
      have D11 : Cells ((((((((((((wY22.setCell ⟨w.heap.size + 1, 0, none⟩ (.slice p2 n c2)).setCell ⟨w.heap.size + 1, 1, none⟩ (.int .i64 0)).setCell ⟨w.heap.size + 1, 2, none⟩ (.int .i64 0)).setCell ⟨w.heap.size + 1, 3, none⟩ (.slice qa 0 ca)).setCell ⟨w.heap.size + 1, 4, none⟩ (.int .i64 0)).setCell ⟨w.heap.size + 1, 5, none⟩ (.slice qb 0 cb)).setCell ⟨w.heap.size + 1, 6, none⟩ (.int .i64 0)).setCell ⟨w.heap.size + 1, 7, none⟩ (.slice p4 m c4)).setCell ⟨w.heap.size + 1, 8, none⟩ (.int .i64 0)).setCell ⟨w.heap.size + 1, 9, none⟩ (.slice qc 0 cc)).setCell ⟨w.heap.size + 1, 10, none⟩ (.slice qd 0 cd)).setCell ⟨w.heap.size + 1, 11, none⟩ (.slice none 0 0)) (w.heap.size + 1) #[.slice p2 n c2, .int .i64 0, .int .i64 0, .slice qa 0 ca, .int .i64 0, .slice qb 0 cb, .int .i64 0, .slice p4 m c4, .int .i64 0, .slice qc 0 cc, .slice qd 0 cd, .slice none 0 0, .slice none 0 0] := D10.set 11 (by simp) (.slice none 0 0)
      clear D10
      have m12 : (((((((((((((wY22.setCell ⟨w.heap.size + 1, 0, none⟩ (.slice p2 n c2)).setCell ⟨w.heap.size + 1, 1, none⟩ (.int .i64 0)).setCell ⟨w.heap.size + 1, 2, none⟩ (.int .i64 0)).setCell ⟨w.heap.size + 1, 3, none⟩ (.slice qa 0 ca)).setCell ⟨w.heap.size + 1, 4, none⟩ (.int .i64 0)).setCell ⟨w.heap.size + 1, 5, none⟩ (.slice qb 0 cb)).setCell ⟨w.heap.size + 1, 6, none⟩ (.int .i64 0)).setCell ⟨w.heap.size + 1, 7, none⟩ (.slice p4 m c4)).setCell ⟨w.heap.size + 1, 8, none⟩ (.int .i64 0)).setCell ⟨w.heap.size + 1, 9, none⟩ (.slice qc 0 cc)).setCell ⟨w.heap.size + 1, 10, none⟩ (.slice qd 0 cd)).setCell ⟨w.heap.size + 1, 11, none⟩ (.slice none 0 0))).cell? ⟨w.heap.size + 1, 12, none⟩ = some (.slice none 0 0) := (D11.2 12).1
      have f12 := (D11.2 12).2
      have D12 : Cells (((((((((((((wY22.setCell ⟨w.heap.size + 1, 0, none⟩ (.slice p2 n c2)).setCell ⟨w.heap.size + 1, 1, none⟩ (.int .i64 0)).setCell ⟨w.heap.size + 1, 2, none⟩ (.int .i64 0)).setCell ⟨w.heap.size + 1, 3, none⟩ (.slice qa 0 ca)).setCell ⟨w.heap.size + 1, 4, none⟩ (.int .i64 0)).setCell ⟨w.heap.size + 1, 5, none⟩ (.slice qb 0 cb)).setCell ⟨w.heap.size + 1, 6, none⟩ (.int .i64 0)).setCell ⟨w.heap.size + 1, 7, none⟩ (.slice p4 m c4)).setCell ⟨w.heap.size + 1, 8, none⟩ (.int .i64 0)).setCell ⟨w.heap.size + 1, 9, none⟩ (.slice qc 0 cc)).setCell ⟨w.heap.size + 1, 10, none⟩ (.slice qd 0 cd)).setCell ⟨w.heap.size + 1, 11, none⟩ (.slice none 0 0)).setCell ⟨w.heap.size + 1, 12, none⟩ (.slice none 0 0)) (w.heap.size + 1) #[.slice p2 n c2, .int .i64 0, .int .i64 0, .slice qa 0 ca, .int .i64 0, .slice qb 0 cb, .int .i64 0, .slice p4 m c4, .int .i64 0, .slice qc 0 cc, .slice qd 0 cd, .slice none 0 0, .slice none 0 0] := D11.set 12 (by simp) (.slice none 0 0)
      clear D11
      clear D12
      clear gE0 zE0 gE zE kE zR bW C0 C1 C2 i0 i1 kT CZ kw
      go_wp2_with (fail)
      refine wp_loop_rounds 1 ?_
      rw [rounds_succ]
      go_wp2_with (fail)
      refine wp_loop_rounds 1 ?_
      rw [rounds_succ]
      go_wp2_with (fail)
      (try simp only [Exit.inBlock, Exit.then])
      refine bodyPost_ret (v := .agg #[.slice p2 n c2, .int .i64 0, .int .i64 0, .slice qa 0 ca, .int .i64 0, .slice qb 0 cb, .int .i64 0, .slice p4 m c4, .int .i64 0, .slice qc 0 cc, .slice qd 0 cd, .slice none 0 0, .slice none 0 0]) ?_ rfl ⟨p2, c2, qa, ca, qb, cb, p4, c4, qc, cc, qd, cd, _, rfl, Own.widen o2' (by omega) (Nat.le_refl _), Own.widen o4' (by omega) (by omega), kE2⟩
      simp [results, asAddr, hR]
  · go_simp
    have z23 := Cells.made W #[.slice none 0 0, .int .i64 0, .int .i64 0, .slice none 0 0, .int .i64 0, .slice none 0 0, .int .i64 0, .slice none 0 0, .int .i64 0, .slice none 0 0, .slice none 0 0, .slice none 0 0, .slice none 0 0] 32
    have b23 : Below W.heap.size W (W.alloc (.cells #[.slice none 0 0, .int .i64 0, .int .i64 0, .slice none 0 0, .int .i64 0, .slice none 0 0, .int .i64 0, .slice none 0 0, .int .i64 0, .slice none 0 0, .slice none 0 0, .slice none 0 0, .slice none 0 0] 32)) := (Below.refl _ _).alloc (Nat.le_refl _) _
    have kwY23 := below_on kW b23
    have t23 := kT.on b23
    have s23 := b23.size
    have u23 := z23.1
    (try replace o2 := o2.on b23)
    (try replace o4 := o4.on b23)
    refine hK.out _ _ t23 (fun _ => trivial) ?_
    clear hK K
    generalize W.alloc (.cells #[.slice none 0 0, .int .i64 0, .int .i64 0, .slice none 0 0, .int .i64 0, .slice none 0 0, .int .i64 0, .slice none 0 0, .int .i64 0, .slice none 0 0, .slice none 0 0, .slice none 0 0, .slice none 0 0] 32) = wY23 at *
    have gW : W.heap.size ≤ W.heap.size := kW.size
    have ne : w.heap.size ≠ W.heap.size := by have u1 := kT.1; omega
    refine anyT_one (i := 2) (by kernel_rfl) rfl (fun K hK => ?_)
    go_simp
    refine (C0 _ kwY23).mono ?_
    rintro e wY25 ⟨p2, c2, rfl, r2, b25⟩
    have kwY25 := below_on kwY23 b25
    have t25 := t23.on b25
    have s25 := b25.size
    (try replace o2 := o2.on b25)
    (try replace o4 := o4.on b25)
    have o2 := r2
    have z25 := z23.on b25
    go_wp2_with (fail)
    refine hK.out _ _ t25 (fun _ => trivial) ?_
    clear hK K
    refine anyT_one (i := 9) (by kernel_rfl) rfl (fun K hK => ?_)
    go_simp
    refine (C1 _).mono ?_
    rintro e wY27 ⟨qa, ca, qb, cb, rfl, r3, b27⟩
    have kwY27 := below_on kwY25 b27
    have t27 := t25.on b27
    have s27 := b27.size
    (try replace o2 := o2.on b27)
    (try replace o4 := o4.on b27)
    have z27 := z25.on b27
    go_wp2_with (fail)
    refine hK.out _ _ t27 (fun _ => trivial) ?_
    clear hK K
    refine anyT_one (i := 12) (by kernel_rfl) rfl (fun K hK => ?_)
    go_simp
    refine (C2 _ kwY27).mono ?_
    rintro e wY29 ⟨p4, c4, qc, cc, qd, cd, rfl, r4, b29⟩
    have kwY29 := below_on kwY27 b29
    have t29 := t27.on b29
    have s29 := b29.size
    (try replace o2 := o2.on b29)
    (try replace o4 := o4.on b29)
    have o4 := r4
    have z29 := z27.on b29
    go_wp2_with (fail)
    refine hK.out _ _ t29 (fun _ => trivial) ?_
    clear hK K
    refine anyT_takeT (i := 13) (v := .agg #[.slice p2 n c2, .int .i64 0, .int .i64 0, .slice qa 0 ca, .int .i64 0, .slice qb 0 cb, .int .i64 0, .slice p4 m c4, .int .i64 0, .slice qc 0 cc, .slice qd 0 cd, .slice none 0 0, .slice none 0 0]) rfl (by kernel_rfl) (by kernel_rfl) (by kernel_rfl) (by kernel_rfl) (fun _ _ _ h => h) (Or.inl ⟨by rfl, fun X hSw => by (go_simp)⟩) t29 (fun _ => trivial) ?_
    (try simp only [Act.put, List.getElem_toArray, List.getElem_cons_zero, List.getElem_cons_succ, List.setIfInBounds_toArray, List.set_cons_zero, List.set_cons_succ])
    refine anyT_one (i := 15) (by kernel_rfl) rfl (fun K hK => ?_)
    have g31 := setCells_grown (W.heap.size) [.slice p2 n c2, .int .i64 0, .int .i64 0, .slice qa 0 ca, .int .i64 0, .slice qb 0 cb, .int .i64 0, .slice p4 m c4, .int .i64 0, .slice qc 0 cc, .slice qd 0 cd, .slice none 0 0, .slice none 0 0] 0 wY29
    have v31 := Cells.setAll z29 [.slice p2 n c2, .int .i64 0, .int .i64 0, .slice qa 0 ca, .int .i64 0, .slice qb 0 cb, .int .i64 0, .slice p4 m c4, .int .i64 0, .slice qc 0 cc, .slice qd 0 cd, .slice none 0 0, .slice none 0 0] rfl
    have t31 := Cells.grown t29 g31 (fun h => ne (Option.some.inj h))
    refine wp_store_mid 32 _ _ rfl (W.heap.size) 0 #[.slice p2 n c2, .int .i64 0, .int .i64 0, .slice qa 0 ca, .int .i64 0, .slice qb 0 cb, .int .i64 0, .slice p4 m c4, .int .i64 0, .slice qc 0 cc, .slice qd 0 cd, .slice none 0 0, .slice none 0 0] rfl rfl z29.there (sizeWorld _ _ _ _ _ _ _ _ _ _ _ _ _) (all_oneCell_toArray (by simp [Value.oneCell'])) ?_
    refine hK.out _ _ t31 (fun _ => trivial) ?_
    clear hK K
    refine anyT_done (by kernel_rfl) ?_ _
    refine NoPanic.normal ?_
    obtain ⟨wY31, hwY31⟩ : ∃ Y, Y = wY29.setCells (W.heap.size) 0 [.slice p2 n c2, .int .i64 0, .int .i64 0, .slice qa 0 ca, .int .i64 0, .slice qb 0 cb, .int .i64 0, .slice p4 m c4, .int .i64 0, .slice qc 0 cc, .slice qd 0 cd, .slice none 0 0, .slice none 0 0] := ⟨_, rfl⟩
    rw [← hwY31] at g31 v31 t31
    rw [show wY29.setCells (W.heap.size) 0 (#[.slice p2 n c2, .int .i64 0, .int .i64 0, .slice qa 0 ca, .int .i64 0, .slice qb 0 cb, .int .i64 0, .slice p4 m c4, .int .i64 0, .slice qc 0 cc, .slice qd 0 cd, .slice none 0 0, .slice none 0 0]).toList = wY31 from hwY31.symm]
    clear hwY31
    have y0 : wY31.cell? ⟨w.heap.size, 11, none⟩ = some (.slice none 0 0) := (t31.2 11).1
    have y1 : wY31.cell? ⟨w.heap.size, 12, none⟩ = some (.slice none 0 0) := (t31.2 12).1
    have neR : w.heap.size + 1 ≠ W.heap.size := by omega
    have zR := (CZ.on kwY29).grown g31 (fun h => neR (Option.some.inj h))
    have gE0 := setCells_grown (w.heap.size + 1) [.slice p2 n c2, .int .i64 0, .int .i64 0, .slice qa 0 ca, .int .i64 0, .slice qb 0 cb, .int .i64 0, .slice p4 m c4, .int .i64 0, .slice qc 0 cc, .slice qd 0 cd, .slice none 0 0, .slice none 0 0] 0 wY31
    have zE0 := Cells.setAll zR [.slice p2 n c2, .int .i64 0, .int .i64 0, .slice qa 0 ca, .int .i64 0, .slice qb 0 cb, .int .i64 0, .slice p4 m c4, .int .i64 0, .slice qc 0 cc, .slice qd 0 cd, .slice none 0 0, .slice none 0 0] rfl
    have kE : Below w.heap.size w wY31 := (below_on kw kwY29).grown g31 (below_on kw kwY29).size (fun q hq => by have := Option.some.inj hq; omega)
    have gE : World.grownBy wY31 ((((((((((((((wY31.setCell ⟨w.heap.size + 1, 0, none⟩ (.slice p2 n c2)).setCell ⟨w.heap.size + 1, 1, none⟩ (.int .i64 0)).setCell ⟨w.heap.size + 1, 2, none⟩ (.int .i64 0)).setCell ⟨w.heap.size + 1, 3, none⟩ (.slice qa 0 ca)).setCell ⟨w.heap.size + 1, 4, none⟩ (.int .i64 0)).setCell ⟨w.heap.size + 1, 5, none⟩ (.slice qb 0 cb)).setCell ⟨w.heap.size + 1, 6, none⟩ (.int .i64 0)).setCell ⟨w.heap.size + 1, 7, none⟩ (.slice p4 m c4)).setCell ⟨w.heap.size + 1, 8, none⟩ (.int .i64 0)).setCell ⟨w.heap.size + 1, 9, none⟩ (.slice qc 0 cc)).setCell ⟨w.heap.size + 1, 10, none⟩ (.slice qd 0 cd)).setCell ⟨w.heap.size + 1, 11, none⟩ (.slice none 0 0)).setCell ⟨w.heap.size + 1, 12, none⟩ (.slice none 0 0))) (some (w.heap.size + 1)) := gE0
    have zE : Cells ((((((((((((((wY31.setCell ⟨w.heap.size + 1, 0, none⟩ (.slice p2 n c2)).setCell ⟨w.heap.size + 1, 1, none⟩ (.int .i64 0)).setCell ⟨w.heap.size + 1, 2, none⟩ (.int .i64 0)).setCell ⟨w.heap.size + 1, 3, none⟩ (.slice qa 0 ca)).setCell ⟨w.heap.size + 1, 4, none⟩ (.int .i64 0)).setCell ⟨w.heap.size + 1, 5, none⟩ (.slice qb 0 cb)).setCell ⟨w.heap.size + 1, 6, none⟩ (.int .i64 0)).setCell ⟨w.heap.size + 1, 7, none⟩ (.slice p4 m c4)).setCell ⟨w.heap.size + 1, 8, none⟩ (.int .i64 0)).setCell ⟨w.heap.size + 1, 9, none⟩ (.slice qc 0 cc)).setCell ⟨w.heap.size + 1, 10, none⟩ (.slice qd 0 cd)).setCell ⟨w.heap.size + 1, 11, none⟩ (.slice none 0 0)).setCell ⟨w.heap.size + 1, 12, none⟩ (.slice none 0 0))) (w.heap.size + 1) #[.slice p2 n c2, .int .i64 0, .int .i64 0, .slice qa 0 ca, .int .i64 0, .slice qb 0 cb, .int .i64 0, .slice p4 m c4, .int .i64 0, .slice qc 0 cc, .slice qd 0 cd, .slice none 0 0, .slice none 0 0] := zE0
    have kE2 := kE.grown gE kE.size (fun q hq => by have := Option.some.inj hq; omega)
    have sY := g31.size
    have sE := gE.size
    have o2' := (Own.past_row o2 g31 (by omega)).past_row gE (by omega)
    have o4' := (Own.past_row o4 g31 (by omega)).past_row gE (by omega)
    have hR := run_loadVar_mid (P := Tryz.prog) _ (w.heap.size + 1) 0 32 [.slice p2 n c2, .int .i64 0, .int .i64 0, .slice qa 0 ca, .int .i64 0, .slice qb 0 cb, .int .i64 0, .slice p4 m c4, .int .i64 0, .slice qc 0 cc, .slice qd 0 cd, .slice none 0 0, .slice none 0 0] _ (Cells.range zE) Tryz.underlying32 rfl (sizeWorld _ _ _ _ _ _ _ _ _ _ _ _ _)
    skip
    have l0 := (v31.2 0).1
    have l1 := (v31.2 1).1
    have l2 := (v31.2 2).1
    have l3 := (v31.2 3).1
    have l4 := (v31.2 4).1
    have l5 := (v31.2 5).1
    have l6 := (v31.2 6).1
    have l7 := (v31.2 7).1
    have l8 := (v31.2 8).1
    have l9 := (v31.2 9).1
    have l10 := (v31.2 10).1
    have l11 := (v31.2 11).1
    have l12 := (v31.2 12).1
    have m0 : (wY31).cell? ⟨w.heap.size + 1, 0, none⟩ = some (.slice none 0 0) := (zR.2 0).1
    have f0 := (zR.2 0).2
    have D0 : Cells (wY31.setCell ⟨w.heap.size + 1, 0, none⟩ (.slice p2 n c2)) (w.heap.size + 1) #[.slice p2 n c2, .int .i64 0, .int .i64 0, .slice none 0 0, .int .i64 0, .slice none 0 0, .int .i64 0, .slice none 0 0, .int .i64 0, .slice none 0 0, .slice none 0 0, .slice none 0 0, .slice none 0 0] := zR.set 0 (by simp) (.slice p2 n c2)
    have m1 : ((wY31.setCell ⟨w.heap.size + 1, 0, none⟩ (.slice p2 n c2))).cell? ⟨w.heap.size + 1, 1, none⟩ = some (.int .i64 0) := (D0.2 1).1
    have f1 := (D0.2 1).2
    have D1 : Cells ((wY31.setCell ⟨w.heap.size + 1, 0, none⟩ (.slice p2 n c2)).setCell ⟨w.heap.size + 1, 1, none⟩ (.int .i64 0)) (w.heap.size + 1) #[.slice p2 n c2, .int .i64 0, .int .i64 0, .slice none 0 0, .int .i64 0, .slice none 0 0, .int .i64 0, .slice none 0 0, .int .i64 0, .slice none 0 0, .slice none 0 0, .slice none 0 0, .slice none 0 0] := D0.set 1 (by simp) (.int .i64 0)
    clear D0
    have m2 : (((wY31.setCell ⟨w.heap.size + 1, 0, none⟩ (.slice p2 n c2)).setCell ⟨w.heap.size + 1, 1, none⟩ (.int .i64 0))).cell? ⟨w.heap.size + 1, 2, none⟩ = some (.int .i64 0) := (D1.2 2).1
    have f2 := (D1.2 2).2
    have D2 : Cells (((wY31.setCell ⟨w.heap.size + 1, 0, none⟩ (.slice p2 n c2)).setCell ⟨w.heap.size + 1, 1, none⟩ (.int .i64 0)).setCell ⟨w.heap.size + 1, 2, none⟩ (.int .i64 0)) (w.heap.size + 1) #[.slice p2 n c2, .int .i64 0, .int .i64 0, .slice none 0 0, .int .i64 0, .slice none 0 0, .int .i64 0, .slice none 0 0, .int .i64 0, .slice none 0 0, .slice none 0 0, .slice none 0 0, .slice none 0 0] := D1.set 2 (by simp) (.int .i64 0)
    clear D1
    have m3 : ((((wY31.setCell ⟨w.heap.size + 1, 0, none⟩ (.slice p2 n c2)).setCell ⟨w.heap.size + 1, 1, none⟩ (.int .i64 0)).setCell ⟨w.heap.size + 1, 2, none⟩ (.int .i64 0))).cell? ⟨w.heap.size + 1, 3, none⟩ = some (.slice none 0 0) := (D2.2 3).1
    have f3 := (D2.2 3).2
    have D3 : Cells ((((wY31.setCell ⟨w.heap.size + 1, 0, none⟩ (.slice p2 n c2)).setCell ⟨w.heap.size + 1, 1, none⟩ (.int .i64 0)).setCell ⟨w.heap.size + 1, 2, none⟩ (.int .i64 0)).setCell ⟨w.heap.size + 1, 3, none⟩ (.slice qa 0 ca)) (w.heap.size + 1) #[.slice p2 n c2, .int .i64 0, .int .i64 0, .slice qa 0 ca, .int .i64 0, .slice none 0 0, .int .i64 0, .slice none 0 0, .int .i64 0, .slice none 0 0, .slice none 0 0, .slice none 0 0, .slice none 0 0] := D2.set 3 (by simp) (.slice qa 0 ca)
    clear D2
    have m4 : (((((wY31.setCell ⟨w.heap.size + 1, 0, none⟩ (.slice p2 n c2)).setCell ⟨w.heap.size + 1, 1, none⟩ (.int .i64 0)).setCell ⟨w.heap.size + 1, 2, none⟩ (.int .i64 0)).setCell ⟨w.heap.size + 1, 3, none⟩ (.slice qa 0 ca))).cell? ⟨w.heap.size + 1, 4, none⟩ = some (.int .i64 0) := (D3.2 4).1
    have f4 := (D3.2 4).2
    have D4 : Cells (((((wY31.setCell ⟨w.heap.size + 1, 0, none⟩ (.slice p2 n c2)).setCell ⟨w.heap.size + 1, 1, none⟩ (.int .i64 0)).setCell ⟨w.heap.size + 1, 2, none⟩ (.int .i64 0)).setCell ⟨w.heap.size + 1, 3, none⟩ (.slice qa 0 ca)).setCell ⟨w.heap.size + 1, 4, none⟩ (.int .i64 0)) (w.heap.size + 1) #[.slice p2 n c2, .int .i64 0, .int .i64 0, .slice qa 0 ca, .int .i64 0, .slice none 0 0, .int .i64 0, .slice none 0 0, .int .i64 0, .slice none 0 0, .slice none 0 0, .slice none 0 0, .slice none 0 0] := D3.set 4 (by simp) (.int .i64 0)
    clear D3
    have m5 : ((((((wY31.setCell ⟨w.heap.size + 1, 0, none⟩ (.slice p2 n c2)).setCell ⟨w.heap.size + 1, 1, none⟩ (.int .i64 0)).setCell ⟨w.heap.size + 1, 2, none⟩ (.int .i64 0)).setCell ⟨w.heap.size + 1, 3, none⟩ (.slice qa 0 ca)).setCell ⟨w.heap.size + 1, 4, none⟩ (.int .i64 0))).cell? ⟨w.heap.size + 1, 5, none⟩ = some (.slice none 0 0) := (D4.2 5).1
    have f5 := (D4.2 5).2
    have D5 : Cells ((((((wY31.setCell ⟨w.heap.size + 1, 0, none⟩ (.slice p2 n c2)).setCell ⟨w.heap.size + 1, 1, none⟩ (.int .i64 0)).setCell ⟨w.heap.size + 1, 2, none⟩ (.int .i64 0)).setCell ⟨w.heap.size + 1, 3, none⟩ (.slice qa 0 ca)).setCell ⟨w.heap.size + 1, 4, none⟩ (.int .i64 0)).setCell ⟨w.heap.size + 1, 5, none⟩ (.slice qb 0 cb)) (w.heap.size + 1) #[.slice p2 n c2, .int .i64 0, .int .i64 0, .slice qa 0 ca, .int .i64 0, .slice qb 0 cb, .int .i64 0, .slice none 0 0, .int .i64 0, .slice none 0 0, .slice none 0 0, .slice none 0 0, .slice none 0 0] := D4.set 5 (by simp) (.slice qb 0 cb)
    clear D4
    have m6 : (((((((wY31.setCell ⟨w.heap.size + 1, 0, none⟩ (.slice p2 n c2)).setCell ⟨w.heap.size + 1, 1, none⟩ (.int .i64 0)).setCell ⟨w.heap.size + 1, 2, none⟩ (.int .i64 0)).setCell ⟨w.heap.size + 1, 3, none⟩ (.slice qa 0 ca)).setCell ⟨w.heap.size + 1, 4, none⟩ (.int .i64 0)).setCell ⟨w.heap.size + 1, 5, none⟩ (.slice qb 0 cb))).cell? ⟨w.heap.size + 1, 6, none⟩ = some (.int .i64 0) := (D5.2 6).1
    have f6 := (D5.2 6).2
    have D6 : Cells (((((((wY31.setCell ⟨w.heap.size + 1, 0, none⟩ (.slice p2 n c2)).setCell ⟨w.heap.size + 1, 1, none⟩ (.int .i64 0)).setCell ⟨w.heap.size + 1, 2, none⟩ (.int .i64 0)).setCell ⟨w.heap.size + 1, 3, none⟩ (.slice qa 0 ca)).setCell ⟨w.heap.size + 1, 4, none⟩ (.int .i64 0)).setCell ⟨w.heap.size + 1, 5, none⟩ (.slice qb 0 cb)).setCell ⟨w.heap.size + 1, 6, none⟩ (.int .i64 0)) (w.heap.size + 1) #[.slice p2 n c2, .int .i64 0, .int .i64 0, .slice qa 0 ca, .int .i64 0, .slice qb 0 cb, .int .i64 0, .slice none 0 0, .int .i64 0, .slice none 0 0, .slice none 0 0, .slice none 0 0, .slice none 0 0] := D5.set 6 (by simp) (.int .i64 0)
    clear D5
    have m7 : ((((((((wY31.setCell ⟨w.heap.size + 1, 0, none⟩ (.slice p2 n c2)).setCell ⟨w.heap.size + 1, 1, none⟩ (.int .i64 0)).setCell ⟨w.heap.size + 1, 2, none⟩ (.int .i64 0)).setCell ⟨w.heap.size + 1, 3, none⟩ (.slice qa 0 ca)).setCell ⟨w.heap.size + 1, 4, none⟩ (.int .i64 0)).setCell ⟨w.heap.size + 1, 5, none⟩ (.slice qb 0 cb)).setCell ⟨w.heap.size + 1, 6, none⟩ (.int .i64 0))).cell? ⟨w.heap.size + 1, 7, none⟩ = some (.slice none 0 0) := (D6.2 7).1
    have f7 := (D6.2 7).2
    have D7 : Cells ((((((((wY31.setCell ⟨w.heap.size + 1, 0, none⟩ (.slice p2 n c2)).setCell ⟨w.heap.size + 1, 1, none⟩ (.int .i64 0)).setCell ⟨w.heap.size + 1, 2, none⟩ (.int .i64 0)).setCell ⟨w.heap.size + 1, 3, none⟩ (.slice qa 0 ca)).setCell ⟨w.heap.size + 1, 4, none⟩ (.int .i64 0)).setCell ⟨w.heap.size + 1, 5, none⟩ (.slice qb 0 cb)).setCell ⟨w.heap.size + 1, 6, none⟩ (.int .i64 0)).setCell ⟨w.heap.size + 1, 7, none⟩ (.slice p4 m c4)) (w.heap.size + 1) #[.slice p2 n c2, .int .i64 0, .int .i64 0, .slice qa 0 ca, .int .i64 0, .slice qb 0 cb, .int .i64 0, .slice p4 m c4, .int .i64 0, .slice none 0 0, .slice none 0 0, .slice none 0 0, .slice none 0 0] := D6.set 7 (by simp) (.slice p4 m c4)
    clear D6
    have m8 : (((((((((wY31.setCell ⟨w.heap.size + 1, 0, none⟩ (.slice p2 n c2)).setCell ⟨w.heap.size + 1, 1, none⟩ (.int .i64 0)).setCell ⟨w.heap.size + 1, 2, none⟩ (.int .i64 0)).setCell ⟨w.heap.size + 1, 3, none⟩ (.slice qa 0 ca)).setCell ⟨w.heap.size + 1, 4, none⟩ (.int .i64 0)).setCell ⟨w.heap.size + 1, 5, none⟩ (.slice qb 0 cb)).setCell ⟨w.heap.size + 1, 6, none⟩ (.int .i64 0)).setCell ⟨w.heap.size + 1, 7, none⟩ (.slice p4 m c4))).cell? ⟨w.heap.size + 1, 8, none⟩ = some (.int .i64 0) := (D7.2 8).1
    have f8 := (D7.2 8).2
    have D8 : Cells (((((((((wY31.setCell ⟨w.heap.size + 1, 0, none⟩ (.slice p2 n c2)).setCell ⟨w.heap.size + 1, 1, none⟩ (.int .i64 0)).setCell ⟨w.heap.size + 1, 2, none⟩ (.int .i64 0)).setCell ⟨w.heap.size + 1, 3, none⟩ (.slice qa 0 ca)).setCell ⟨w.heap.size + 1, 4, none⟩ (.int .i64 0)).setCell ⟨w.heap.size + 1, 5, none⟩ (.slice qb 0 cb)).setCell ⟨w.heap.size + 1, 6, none⟩ (.int .i64 0)).setCell ⟨w.heap.size + 1, 7, none⟩ (.slice p4 m c4)).setCell ⟨w.heap.size + 1, 8, none⟩ (.int .i64 0)) (w.heap.size + 1) #[.slice p2 n c2, .int .i64 0, .int .i64 0, .slice qa 0 ca, .int .i64 0, .slice qb 0 cb, .int .i64 0, .slice p4 m c4, .int .i64 0, .slice none 0 0, .slice none 0 0, .slice none 0 0, .slice none 0 0] := D7.set 8 (by simp) (.int .i64 0)
    clear D7
    have m9 : ((((((((((wY31.setCell ⟨w.heap.size + 1, 0, none⟩ (.slice p2 n c2)).setCell ⟨w.heap.size + 1, 1, none⟩ (.int .i64 0)).setCell ⟨w.heap.size + 1, 2, none⟩ (.int .i64 0)).setCell ⟨w.heap.size + 1, 3, none⟩ (.slice qa 0 ca)).setCell ⟨w.heap.size + 1, 4, none⟩ (.int .i64 0)).setCell ⟨w.heap.size + 1, 5, none⟩ (.slice qb 0 cb)).setCell ⟨w.heap.size + 1, 6, none⟩ (.int .i64 0)).setCell ⟨w.heap.size + 1, 7, none⟩ (.slice p4 m c4)).setCell ⟨w.heap.size + 1, 8, none⟩ (.int .i64 0))).cell? ⟨w.heap.size + 1, 9, none⟩ = some (.slice none 0 0) := (D8.2 9).1
    have f9 := (D8.2 9).2
    have D9 : Cells ((((((((((wY31.setCell ⟨w.heap.size + 1, 0, none⟩ (.slice p2 n c2)).setCell ⟨w.heap.size + 1, 1, none⟩ (.int .i64 0)).setCell ⟨w.heap.size + 1, 2, none⟩ (.int .i64 0)).setCell ⟨w.heap.size + 1, 3, none⟩ (.slice qa 0 ca)).setCell ⟨w.heap.size + 1, 4, none⟩ (.int .i64 0)).setCell ⟨w.heap.size + 1, 5, none⟩ (.slice qb 0 cb)).setCell ⟨w.heap.size + 1, 6, none⟩ (.int .i64 0)).setCell ⟨w.heap.size + 1, 7, none⟩ (.slice p4 m c4)).setCell ⟨w.heap.size + 1, 8, none⟩ (.int .i64 0)).setCell ⟨w.heap.size + 1, 9, none⟩ (.slice qc 0 cc)) (w.heap.size + 1) #[.slice p2 n c2, .int .i64 0, .int .i64 0, .slice qa 0 ca, .int .i64 0, .slice qb 0 cb, .int .i64 0, .slice p4 m c4, .int .i64 0, .slice qc 0 cc, .slice none 0 0, .slice none 0 0, .slice none 0 0] := D8.set 9 (by simp) (.slice qc 0 cc)
    clear D8
    have m10 : (((((((((((wY31.setCell ⟨w.heap.size + 1, 0, none⟩ (.slice p2 n c2)).setCell ⟨w.heap.size + 1, 1, none⟩ (.int .i64 0)).setCell ⟨w.heap.size + 1, 2, none⟩ (.int .i64 0)).setCell ⟨w.heap.size + 1, 3, none⟩ (.slice qa 0 ca)).setCell ⟨w.heap.size + 1, 4, none⟩ (.int .i64 0)).setCell ⟨w.heap.size + 1, 5, none⟩ (.slice qb 0 cb)).setCell ⟨w.heap.size + 1, 6, none⟩ (.int .i64 0)).setCell ⟨w.heap.size + 1, 7, none⟩ (.slice p4 m c4)).setCell ⟨w.heap.size + 1, 8, none⟩ (.int .i64 0)).setCell ⟨w.heap.size + 1, 9, none⟩ (.slice qc 0 cc))).cell? ⟨w.heap.size + 1, 10, none⟩ = some (.slice none 0 0) := (D9.2 10).1
    have f10 := (D9.2 10).2
    have D10 : Cells (((((((((((wY31.setCell ⟨w.heap.size + 1, 0, none⟩ (.slice p2 n c2)).setCell ⟨w.heap.size + 1, 1, none⟩ (.int .i64 0)).setCell ⟨w.heap.size + 1, 2, none⟩ (.int .i64 0)).setCell ⟨w.heap.size + 1, 3, none⟩ (.slice qa 0 ca)).setCell ⟨w.heap.size + 1, 4, none⟩ (.int .i64 0)).setCell ⟨w.heap.size + 1, 5, none⟩ (.slice qb 0 cb)).setCell ⟨w.heap.size + 1, 6, none⟩ (.int .i64 0)).setCell ⟨w.heap.size + 1, 7, none⟩ (.slice p4 m c4)).setCell ⟨w.heap.size + 1, 8, none⟩ (.int .i64 0)).setCell ⟨w.heap.size + 1, 9, none⟩ (.slice qc 0 cc)).setCell ⟨w.heap.size + 1, 10, none⟩ (.slice qd 0 cd)) (w.heap.size + 1) #[.slice p2 n c2, .int .i64 0, .int .i64 0, .slice qa 0 ca, .int .i64 0, .slice qb 0 cb, .int .i64 0, .slice p4 m c4, .int .i64 0, .slice qc 0 cc, .slice qd 0 cd, .slice none 0 0, .slice none 0 0] := D9.set 10 (by simp) (.slice qd 0 cd)
    clear D9
    have m11 : ((((((((((((wY31.setCell ⟨w.heap.size + 1, 0, none⟩ (.slice p2 n c2)).setCell ⟨w.heap.size + 1, 1, none⟩ (.int .i64 0)).setCell ⟨w.heap.size + 1, 2, none⟩ (.int .i64 0)).setCell ⟨w.heap.size + 1, 3, none⟩ (.slice qa 0 ca)).setCell ⟨w.heap.size + 1, 4, none⟩ (.int .i64 0)).setCell ⟨w.heap.size + 1, 5, none⟩ (.slice qb 0 cb)).setCell ⟨w.heap.size + 1, 6, none⟩ (.int .i64 0)).setCell ⟨w.heap.size + 1, 7, none⟩ (.slice p4 m c4)).setCell ⟨w.heap.size + 1, 8, none⟩ (.int .i64 0)).setCell ⟨w.heap.size + 1, 9, none⟩ (.slice qc 0 cc)).setCell ⟨w.heap.size + 1, 10, none⟩ (.slice qd 0 cd))).cell? ⟨w.heap.size + 1, 11, none⟩ = some (.slice none 0 0) := (D10.2 11).1
    have f11 := (D10.2 11).2
    have D11 : Cells ((((((((((((wY31.setCell ⟨w.heap.size + 1, 0, none⟩ (.slice p2 n c2)).setCell ⟨w.heap.size + 1, 1, none⟩ (.int .i64 0)).setCell ⟨w.heap.size + 1, 2, none⟩ (.int .i64 0)).setCell ⟨w.heap.size + 1, 3, none⟩ (.slice qa 0 ca)).setCell ⟨w.heap.size + 1, 4, none⟩ (.int .i64 0)).setCell ⟨w.heap.size + 1, 5, none⟩ (.slice qb 0 cb)).setCell ⟨w.heap.size + 1, 6, none⟩ (.int .i64 0)).setCell ⟨w.heap.size + 1, 7, none⟩ (.slice p4 m c4)).setCell ⟨w.heap.size + 1, 8, none⟩ (.int .i64 0)).setCell ⟨w.heap.size + 1, 9, none⟩ (.slice qc 0 cc)).setCell ⟨w.heap.size + 1, 10, none⟩ (.slice qd 0 cd)).setCell ⟨w.heap.size + 1, 11, none⟩ (.slice none 0 0)) (w.heap.size + 1) #[.slice p2 n c2, .int .i64 0, .int .i64 0, .slice qa 0 ca, .int .i64 0, .slice qb 0 cb, .int .i64 0, .slice p4 m c4, .int .i64 0, .slice qc 0 cc, .slice qd 0 cd, .slice none 0 0, .slice none 0 0] := D10.set 11 (by simp) (.slice none 0 0)
    clear D10
    have m12 : (((((((((((((wY31.setCell ⟨w.heap.size + 1, 0, none⟩ (.slice p2 n c2)).setCell ⟨w.heap.size + 1, 1, none⟩ (.int .i64 0)).setCell ⟨w.heap.size + 1, 2, none⟩ (.int .i64 0)).setCell ⟨w.heap.size + 1, 3, none⟩ (.slice qa 0 ca)).setCell ⟨w.heap.size + 1, 4, none⟩ (.int .i64 0)).setCell ⟨w.heap.size + 1, 5, none⟩ (.slice qb 0 cb)).setCell ⟨w.heap.size + 1, 6, none⟩ (.int .i64 0)).setCell ⟨w.heap.size + 1, 7, none⟩ (.slice p4 m c4)).setCell ⟨w.heap.size + 1, 8, none⟩ (.int .i64 0)).setCell ⟨w.heap.size + 1, 9, none⟩ (.slice qc 0 cc)).setCell ⟨w.heap.size + 1, 10, none⟩ (.slice qd 0 cd)).setCell ⟨w.heap.size + 1, 11, none⟩ (.slice none 0 0))).cell? ⟨w.heap.size + 1, 12, none⟩ = some (.slice none 0 0) := (D11.2 12).1
    have f12 := (D11.2 12).2
    have D12 : Cells (((((((((((((wY31.setCell ⟨w.heap.size + 1, 0, none⟩ (.slice p2 n c2)).setCell ⟨w.heap.size + 1, 1, none⟩ (.int .i64 0)).setCell ⟨w.heap.size + 1, 2, none⟩ (.int .i64 0)).setCell ⟨w.heap.size + 1, 3, none⟩ (.slice qa 0 ca)).setCell ⟨w.heap.size + 1, 4, none⟩ (.int .i64 0)).setCell ⟨w.heap.size + 1, 5, none⟩ (.slice qb 0 cb)).setCell ⟨w.heap.size + 1, 6, none⟩ (.int .i64 0)).setCell ⟨w.heap.size + 1, 7, none⟩ (.slice p4 m c4)).setCell ⟨w.heap.size + 1, 8, none⟩ (.int .i64 0)).setCell ⟨w.heap.size + 1, 9, none⟩ (.slice qc 0 cc)).setCell ⟨w.heap.size + 1, 10, none⟩ (.slice qd 0 cd)).setCell ⟨w.heap.size + 1, 11, none⟩ (.slice none 0 0)).setCell ⟨w.heap.size + 1, 12, none⟩ (.slice none 0 0)) (w.heap.size + 1) #[.slice p2 n c2, .int .i64 0, .int .i64 0, .slice qa 0 ca, .int .i64 0, .slice qb 0 cb, .int .i64 0, .slice p4 m c4, .int .i64 0, .slice qc 0 cc, .slice qd 0 cd, .slice none 0 0, .slice none 0 0] := D11.set 12 (by simp) (.slice none 0 0)
    clear D11
    clear D12
    clear gE0 zE0 gE zE kE zR bW C0 C1 C2 i0 i1 kT CZ kw
    go_wp2_with (fail)
    refine wp_loop_rounds 1 ?_
    rw [rounds_succ]
    go_wp2_with (fail)
    refine wp_loop_rounds 1 ?_
    rw [rounds_succ]
    go_wp2_with (fail)
    (try simp only [Exit.inBlock, Exit.then])
    refine bodyPost_ret (v := .agg #[.slice p2 n c2, .int .i64 0, .int .i64 0, .slice qa 0 ca, .int .i64 0, .slice qb 0 cb, .int .i64 0, .slice p4 m c4, .int .i64 0, .slice qc 0 cc, .slice qd 0 cd, .slice none 0 0, .slice none 0 0]) ?_ rfl ⟨p2, c2, qa, ca, qb, cb, p4, c4, qc, cc, qd, cd, _, rfl, Own.widen o2' (by omega) (Nat.le_refl _), Own.widen o4' (by omega) (by omega), kE2⟩
    simp [results, asAddr, hR]

end Go.Proofs.YthfnechcddmjkaaGreatDoor
