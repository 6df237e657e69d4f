/-
  The laws' marks in a line: its bytes alone are marked. Conditions: bytes of one's own.
-/
import Derived.Test.YtelfejgpphoifaaDoorLine
import Derived.Test.YtelfejgpphoifaaDoorMarks
namespace Go.Proofs.YtelfejgpphoifaaDoor
open Go.RowKit
set_option maxRecDepth 100000

set_option maxHeartbeats 2000000 in
theorem markLine_own (lo hi : Nat) (kd t d : Int) (s : ByteArray) (p : Option Addr) (n c : Nat) (xs : List Int) (k : Int) (w : World) (hn : n ≤ 1048576) (hk : 0 ≤ k) (hk2 : k ≤ 1048576) (h : Own 5 w lo hi (.slice p n c) n xs) :
    Calls Tryd.prog 10 #[.agg #[.int .i64 kd, .string s, .int .i64 t, .int .i64 d, .slice p n c], .int .i64 k] w fun z w' => z = .returned (.int .i64 (k + n)) ∧ ∃ wa, Below w.heap.size w wa ∧ wa.grownBy w' (Value.ownBlock (.slice p n c)) ∧ Own 5 w' lo hi (.slice p n c) n (marks k n) := by
  have kA : ∀ o, Below w.heap.size w (w.alloc o) := fun o => made_below _ _ (Below.refl _ _)
  go_enter Tryd.func10, Tryd.ntmps10
  go_wp2_with (fail)
  refine (markByteS_own lo hi p n c xs k _ (by omega) hk (by omega) (h.on (kA _))).mono ?_
  rintro z w1 ⟨rfl, r1, g1⟩
  obtain ⟨k', hk'⟩ : ∃ k' : Int, k' = k + n := ⟨_, rfl⟩
  rw [← hk']
  replace hk' : Hid (k' = k + n) := hk'
  go_wp2_with (fail)
  go_ret
  rw [← hk'.out]
  exact ⟨rfl, _, kA _, g1, r1⟩

set_option maxHeartbeats 2000000 in
theorem heldLine_any (kd t d : Int) (s : ByteArray) (p : Option Addr) (n c : Nat) (k : Int) (w : World) (hn : n ≤ 1048576) (hk : 0 ≤ k) (hk2 : k ≤ 1048576) (h : BytesIn w p n (marks k n)) :
    Calls Tryd.prog 11 #[.agg #[.int .i64 kd, .string s, .int .i64 t, .int .i64 d, .slice p n c], .int .i64 k] w fun z w' => z = .returned (.int .i64 (k + n)) ∧ Below w.heap.size w w' := by
  have kA : ∀ o, Below w.heap.size w (w.alloc o) := fun o => made_below _ _ (Below.refl _ _)
  go_enter Tryd.func11, Tryd.ntmps11
  go_wp2_with (fail)
  refine (heldByteS_any p n c k _ (by omega) hk (by omega) (in_below h (kA _))).mono ?_
  rintro z w1 ⟨rfl, b1⟩
  have k1 := made_below _ _ b1
  clear b1 kA
  obtain ⟨k', hk'⟩ : ∃ k' : Int, k' = k + n := ⟨_, rfl⟩
  have b0 : ¬ k' < 0 := by omega
  rw [← hk']
  replace hk' : Hid (k' = k + n) := hk'
  go_wp2_with (fail)
  go_ret
  rw [← hk'.out]
  exact ⟨rfl, k1⟩

/-- Two lines that say the same. -/
theorem lineSame (kd t d : Int) (s : ByteArray) (p p' : Option Addr) (n c c' : Nat) (xs : List Int) (w : World) (hn : n ≤ 1048576) (hx : xs.length = n) (h : BytesIn w p n xs) (h' : BytesIn w p' n xs) :
    Calls Tryd.prog 7 #[.agg #[.int .i64 kd, .string s, .int .i64 t, .int .i64 d, .slice p n c], .agg #[.int .i64 kd, .string s, .int .i64 t, .int .i64 d, .slice p' n c']] w fun z w' => z = .returned (.bool true) ∧ Below w.heap.size w w' := by
  have C := eqLine_any kd kd s s t t d d p p' n c n c' xs xs w (by omega) hx hx h h'
  rw [decide_eq_true ⟨rfl, rfl, rfl, rfl, rfl⟩] at C
  exact C

end Go.Proofs.YtelfejgpphoifaaDoor
