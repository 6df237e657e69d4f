/-
  A new world, the specification's side: an empty book is played, a new post is right.
-/
import Derived.Test.YthfnechcddmjkaaGreatDoorPar19
import Derived.Test.YthfnechcddmjkaaGreatDoorPar07
import Derived.Test.YthfnechcddmjkaaGreatDoorPar10
namespace Go.Proofs.YthfnechcddmjkaaGreatDoor
open Go.RowKit
set_option maxRecDepth 100000

theorem made_eqW {w V : World} {o : Obj} (h : V = w.alloc o) : Below w.heap.size w V := by rw [h]; exact made_below _ _ (Below.refl _ _)
theorem below_setBW {b : Nat} {a w : World} {p : Addr} (h : Below b a w) (hp : b ≤ p.block) (v : Value) : Below b a (w.setCell p v) := h.setCell hp v
set_option maxHeartbeats 4000000 in
theorem specLineOf_farW (p : Option Addr) (n c : Nat) (at_ : Int) (w : World) (hn : n ≤ 1048576) (ha : at_ ≤ 9223372036854775807) (h : at_ < 0 ∨ (n : Int) - 18 < at_) :
    Calls Tryz.prog 119 #[.slice p n c, .int .i64 at_] w fun e w' => e = .returned (.tuple #[.agg #[.int .i64 0, .string { data := #[] }, .int .i64 0, .int .i64 0, .slice none 0 0], .int .i64 0, .bool false]) ∧ Below w.heap.size w w' := by
  obtain ⟨W, hW⟩ : ∃ W, W = w.alloc (.cells #[.int .i64 0, .string { data := #[] }, .int .i64 0, .int .i64 0, .slice none 0 0] 143) := ⟨_, rfl⟩
  have kA : Below w.heap.size w W := made_eqW hW
  have C0 : Cells W w.heap.size #[.int .i64 0, .string { data := #[] }, .int .i64 0, .int .i64 0, .slice none 0 0] := by rw [hW]; exact Cells.made _ _ _
  replace hW : Hid (w.alloc (.cells #[.int .i64 0, .string { data := #[] }, .int .i64 0, .int .i64 0, .slice none 0 0] 143) = W) := hW.symm
  have q0 : (W).cell? ⟨w.heap.size, 0, none⟩ = some (.int .i64 0) := (C0.2 0).1
  have u0 := (C0.2 0).2
  have E1 := C0.set 0 (by simp) (.int .i64 0)
  have q1 : (W.setCell ⟨w.heap.size, 0, none⟩ (.int .i64 0)).cell? ⟨w.heap.size, 1, none⟩ = some (.string { data := #[] }) := (E1.2 1).1
  have u1 := (E1.2 1).2
  have E2 := E1.set 1 (by simp) (.string { data := #[] })
  have q2 : ((W.setCell ⟨w.heap.size, 0, none⟩ (.int .i64 0)).setCell ⟨w.heap.size, 1, none⟩ (.string { data := #[] })).cell? ⟨w.heap.size, 2, none⟩ = some (.int .i64 0) := (E2.2 2).1
  have u2 := (E2.2 2).2
  have E3 := E2.set 2 (by simp) (.int .i64 0)
  have q3 : (((W.setCell ⟨w.heap.size, 0, none⟩ (.int .i64 0)).setCell ⟨w.heap.size, 1, none⟩ (.string { data := #[] })).setCell ⟨w.heap.size, 2, none⟩ (.int .i64 0)).cell? ⟨w.heap.size, 3, none⟩ = some (.int .i64 0) := (E3.2 3).1
  have u3 := (E3.2 3).2
  have E4 := E3.set 3 (by simp) (.int .i64 0)
  have q4 : ((((W.setCell ⟨w.heap.size, 0, none⟩ (.int .i64 0)).setCell ⟨w.heap.size, 1, none⟩ (.string { data := #[] })).setCell ⟨w.heap.size, 2, none⟩ (.int .i64 0)).setCell ⟨w.heap.size, 3, none⟩ (.int .i64 0)).cell? ⟨w.heap.size, 4, none⟩ = some (.slice none 0 0) := (E4.2 4).1
  have u4 := (E4.2 4).2
  have E5 := E4.set 4 (by simp) (.slice none 0 0)
  obtain ⟨X, hX⟩ : ∃ X, X = ((((W.setCell ⟨w.heap.size, 0, none⟩ (.int .i64 0)).setCell ⟨w.heap.size, 1, none⟩ (.string { data := #[] })).setCell ⟨w.heap.size, 2, none⟩ (.int .i64 0)).setCell ⟨w.heap.size, 3, none⟩ (.int .i64 0)).setCell ⟨w.heap.size, 4, none⟩ (.slice none 0 0) := ⟨_, rfl⟩
  rw [← hX] at E5
  have kX : Below w.heap.size w X := by rw [hX]; exact (below_setBW (below_setBW (below_setBW (below_setBW (below_setBW kA (Nat.le_refl _) _) (Nat.le_refl _) _) (Nat.le_refl _) _) (Nat.le_refl _) _) (Nat.le_refl _) _)
  have e0 : X.cell? ⟨w.heap.size, 0, none⟩ = some (.int .i64 0) := (E5.2 0).1
  have e1 : X.cell? ⟨w.heap.size, 1, none⟩ = some (.string { data := #[] }) := (E5.2 1).1
  have e2 : X.cell? ⟨w.heap.size, 2, none⟩ = some (.int .i64 0) := (E5.2 2).1
  have e3 : X.cell? ⟨w.heap.size, 3, none⟩ = some (.int .i64 0) := (E5.2 3).1
  have e4 : X.cell? ⟨w.heap.size, 4, none⟩ = some (.slice none 0 0) := (E5.2 4).1
  have zX : X.heap.size = W.heap.size := by rw [hX]; simp
  replace hX : Hid (((((W.setCell ⟨w.heap.size, 0, none⟩ (.int .i64 0)).setCell ⟨w.heap.size, 1, none⟩ (.string { data := #[] })).setCell ⟨w.heap.size, 2, none⟩ (.int .i64 0)).setCell ⟨w.heap.size, 3, none⟩ (.int .i64 0)).setCell ⟨w.heap.size, 4, none⟩ (.slice none 0 0) = X) := hX.symm
  clear E1 E2 E3 E4 E5 C0 zX
  by_cases h0 : at_ < 0
  · clear h
    go_enter Tryz.func119, Tryz.ntmps119
    go_wp2_with (first | rw [hW.out] | rw [hX.out])
    refine bodyPost_ret (v := (.tuple #[.agg #[.int .i64 0, .string { data := #[] }, .int .i64 0, .int .i64 0, .slice none 0 0], .int .i64 0, .bool false])) ?_ rfl ⟨rfl, kX⟩
    simp only [results, Tryz.f119]
    go_simp
  · have h1 : (n : Int) - 18 < at_ := by omega
    have hw : IntKind.i64.wrap ((n : Int) - 18) = (n : Int) - 18 := by rw [IntKind.wrap_i64]; omega
    clear h
    go_enter Tryz.func119, Tryz.ntmps119
    go_wp2_with (first | rw [hW.out] | rw [hX.out])
    refine bodyPost_ret (v := (.tuple #[.agg #[.int .i64 0, .string { data := #[] }, .int .i64 0, .int .i64 0, .slice none 0 0], .int .i64 0, .bool false])) ?_ rfl ⟨rfl, kX⟩
    simp only [results, Tryz.f119]
    go_simp

theorem specPlay_nil (w : World) : Calls Tryz.prog 93 #[.slice none 0 0] w fun e w' => ∃ p c, e = .returned (.tuple #[.slice p 0 c, .int .i64 0, .int .i64 0]) ∧ Below w.heap.size w w' := by
  have bA : Below w.heap.size w (w.alloc (.cells #[] 84)) := (Below.refl _ _).alloc (Nat.le_refl _) _
  go_enter Tryz.func93, Tryz.ntmps93
  go_wp2_with (fail)
  refine wp_loop_rounds 1 ?_
  rw [rounds_succ]
  go_wp2_with (fail)
  refine (specLineOf_farW none 0 0 0 _ (by omega) (by omega) (.inr (by omega))).mono ?_
  rintro e w1 ⟨rfl, b1⟩
  have k1 := below_on bA b1
  have kB : ∀ o, Below w.heap.size w (w1.alloc o) := fun o => k1.alloc k1.size o
  clear bA b1
  go_wp2_with (fail)
  refine bodyPost_ret (v := .tuple #[.slice (some ⟨w.heap.size, 0, none⟩) 0 0, .int .i64 0, .int .i64 0]) ?_ rfl ⟨_, _, rfl, kB _⟩
  simp only [results, Tryz.f93]
  go_simp
theorem queues_nil (p : Option Addr) (c : Nat) (w : World) : Calls Tryz.prog 94 #[.slice p 0 c, .slice none 0 0] w fun e w' => e = .returned (.bool true) ∧ w' = w := by
  go_enter Tryz.func94, Tryz.ntmps94
  go_wp2_with (fail)
  refine wp_loop_rounds 1 ?_
  rw [rounds_succ]
  go_wp2_with (fail)
  go_ret
  exact ⟨rfl, rfl⟩
theorem net_nil (w : World) : Calls Tryz.prog 53 #[.slice none 0 0] w fun e w' => e = .returned (.bool true) ∧ w' = w := by
  go_enter Tryz.func53, Tryz.ntmps53
  go_wp2_with (fail)
  refine wp_loop_rounds 1 ?_
  rw [rounds_succ]
  go_wp2_with (fail)
  go_ret
  exact ⟨rfl, rfl⟩
end Go.Proofs.YthfnechcddmjkaaGreatDoor
