/-
  The laws' marks in a new reader: its seed alone is marked, its lists are empty. Conditions: a seed of one's own.
-/
import Derived.Test.YtelfejgpphoifaaNewReader
namespace Go.Proofs.Ytelfejgpphoifaa
open Go.RowKit
set_option maxRecDepth 100000

theorem markByteSS_nil (p : Option Addr) (c : Nat) (k : Int) (w : World) :
    Calls Try.prog 30 #[.slice p 0 c, .int .i64 k] w fun z w' => z = .returned (.int .i64 k) ∧ w' = w := by
  go_enter Try.func30, Try.ntmps30
  go_wp2_with (fail)
  go_loopw [1, 5] (fun q i wr => q = .int .i64 k ∧ i = .int .i64 0 ∧ wr = w) (fun _ _ _ => 0)
  case atStart => exact ⟨rfl, rfl, rfl⟩
  case round =>
    obtain ⟨rfl, rfl, rfl⟩ := hrel
    go_wp2_with (fail)
    go_ret
    exact ⟨rfl, rfl⟩
theorem heldByteSS_nil (p : Option Addr) (c : Nat) (k : Int) (w : World) :
    Calls Try.prog 32 #[.slice p 0 c, .int .i64 k] w fun z w' => z = .returned (.int .i64 k) ∧ w' = w := by
  go_enter Try.func32, Try.ntmps32
  go_wp2_with (fail)
  go_loopw [1, 5] (fun q i wr => q = .int .i64 k ∧ i = .int .i64 0 ∧ wr = w) (fun _ _ _ => 0)
  case atStart => exact ⟨rfl, rfl, rfl⟩
  case round =>
    obtain ⟨rfl, rfl, rfl⟩ := hrel
    go_wp2_with (fail)
    go_ret
    exact ⟨rfl, rfl⟩

set_option maxHeartbeats 2000000 in
theorem markReader_own (lo hi : Nat) (p pa pb : Option Addr) (n c ca cb : Nat) (e : Int) (xs : List Int) (k : Int) (w : World) (hn : n ≤ 1048576) (hk : 0 ≤ k) (hk2 : k ≤ 1048576) (h0 : hi ≤ w.heap.size) (h : Own 5 w lo hi (.slice p n c) n xs) :
    Calls Try.prog 16 #[.agg #[.slice p n c, .int .i64 e, .slice pa 0 ca, .slice pb 0 cb], .int .i64 k] w fun z w' => z = .returned (.int .i64 (k + n)) ∧ ∃ wa, Below w.heap.size w wa ∧ wa.grownBy w' (Value.ownBlock (.slice p n c)) ∧ Own 5 w' lo hi (.slice p n c) n (marks k n) := by
  have kA : ∀ o, Below w.heap.size w (w.alloc o) := fun o => made_below _ _ (Below.refl _ _)
  have M := fun k X => markByteSS_nil pa ca k X
  have M' := fun k X => markByteSS_nil pb cb k X
  go_enter Try.func16, Try.ntmps16
  go_wp2_with (fail)
  refine (markByteS_own lo hi p n c xs k _ (by omega) hk (by omega) (h.on (kA _))).mono ?_
  rintro z w1 ⟨rfl, r1, g1⟩
  have C1 := (Cells.made w _ _).grown g1 (fun x => by have := h.2 _ x.symm; omega)
  have l2 : w1.cell? ⟨w.heap.size, 2, none⟩ = some (.slice pa 0 ca) := (C1.2 2).1
  have l3 : w1.cell? ⟨w.heap.size, 3, none⟩ = some (.slice pb 0 cb) := (C1.2 3).1
  obtain ⟨k', hk'⟩ : ∃ k' : Int, k' = k + n := ⟨_, rfl⟩
  rw [← hk']
  replace hk' : Hid (k' = k + n) := hk'
  go_wp2_with (fail)
  refine (M k' _).mono ?_
  rintro z w2 ⟨rfl, rfl⟩
  go_wp2_with (fail)
  refine (M' k' _).mono ?_
  rintro z w2 ⟨rfl, rfl⟩
  go_wp2_with (fail)
  go_ret
  rw [← hk'.out]
  exact ⟨rfl, _, kA _, g1, r1⟩

set_option maxHeartbeats 2000000 in
theorem heldReader_new (p pa pb : Option Addr) (n c ca cb : Nat) (e k : Int) (w : World) (hn : n ≤ 1048576) (hk : 0 ≤ k) (hk2 : k ≤ 1048576) (h : BytesIn w p n (marks k n)) :
    Calls Try.prog 17 #[.agg #[.slice p n c, .int .i64 e, .slice pa 0 ca, .slice pb 0 cb], .int .i64 k] w fun z w' => z = .returned (.int .i64 (k + n)) ∧ Below w.heap.size w w' := by
  have kA : ∀ o, Below w.heap.size w (w.alloc o) := fun o => made_below _ _ (Below.refl _ _)
  have M := fun k X => heldByteSS_nil pa ca k X
  have M' := fun k X => heldByteSS_nil pb cb k X
  go_enter Try.func17, Try.ntmps17
  go_wp2_with (fail)
  refine (heldByteS_any p n c k _ (by omega) hk (by omega) (in_below h (kA _))).mono ?_
  rintro z w1 ⟨rfl, b1⟩
  have C1 := (Cells.made w _ _).on b1
  have k1 := made_below _ _ b1
  clear b1 kA
  have l2 : w1.cell? ⟨w.heap.size, 2, none⟩ = some (.slice pa 0 ca) := (C1.2 2).1
  have l3 : w1.cell? ⟨w.heap.size, 3, none⟩ = some (.slice pb 0 cb) := (C1.2 3).1
  obtain ⟨k', hk'⟩ : ∃ k' : Int, k' = k + n := ⟨_, rfl⟩
  have b0 : ¬ k' < 0 := by omega
  rw [← hk']
  replace hk' : Hid (k' = k + n) := hk'
  go_wp2_with (fail)
  refine (M k' _).mono ?_
  rintro z w2 ⟨rfl, rfl⟩
  go_wp2_with (fail)
  refine (M' k' _).mono ?_
  rintro z w2 ⟨rfl, rfl⟩
  go_wp2_with (fail)
  go_ret
  rw [← hk'.out]
  exact ⟨rfl, k1⟩

/-- Two new readers of one seed say the same. -/
theorem newSame (p p' pa pb qa qb : Option Addr) (n c c' ca cb da db : Nat) (xs : List Int) (w : World) (hn : n ≤ 1048576) (hx : xs.length = n) (hb : ∀ x ∈ xs, 0 ≤ x ∧ x < 256) (h : BytesIn w p n xs) (h' : BytesIn w p' n xs) :
    Calls Try.prog 10 #[.agg #[.slice p n c, .int .i64 0, .slice pa 0 ca, .slice pb 0 cb], .agg #[.slice p' n c', .int .i64 0, .slice qa 0 da, .slice qb 0 db]] w fun z w' => z = .returned (.bool true) ∧ Below w.heap.size w w' := by
  have C := eqReader_any ⟨⟨p, n, c, xs⟩, 0, pa, 0, ca, [], pb, 0, cb, []⟩ ⟨⟨p', n, c', xs⟩, 0, qa, 0, da, [], qb, 0, db, []⟩ w (newOk (by omega) hx h hb pa pb ca cb) (newOk (by omega) hx h' hb qa qb da db)
  rw [decide_eq_true (show RdA.con ⟨⟨p, n, c, xs⟩, 0, pa, 0, ca, [], pb, 0, cb, []⟩ = RdA.con ⟨⟨p', n, c', xs⟩, 0, qa, 0, da, [], qb, 0, db, []⟩ from rfl)] at C
  exact C

end Go.Proofs.Ytelfejgpphoifaa
