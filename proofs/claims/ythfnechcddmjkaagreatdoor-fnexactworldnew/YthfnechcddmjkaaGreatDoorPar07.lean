/-
  A new reader, of the specification and of the program: its seed and two empty lists. Conditions: bytes that lie there.
  The laws' marks in a new reader: its seed alone is marked, its lists are empty. Conditions: a seed of one's own.
  The laws' own functions at new worlds: two are alike by their seeds; marks stand in the seeds alone. Conditions: rows that lie there, of one's own where they are marked.
  The laws' own functions at new worlds, whole.
-/
import Derived.Test.YthfnechcddmjkaaGreatDoorPar05
import Derived.Test.YthfnechcddmjkaaGreatDoorPar06
import Derived.Deep.RegionHeld3
namespace Go.Proofs.YthfnechcddmjkaaGreatDoor
open Go.RowKit
set_option maxRecDepth 100000

theorem rB_new (p : Option Addr) (n c : Nat) (xs : List Int) (pa pb : Option Addr) (ca cb : Nat) : rB ⟨⟨p, n, c, xs⟩, 0, pa, 0, ca, [], pb, 0, cb, []⟩ = decide (n = 32) := by
  by_cases h : n = 32
  · rw [decide_eq_true h]; exact rB_true ⟨h, ⟨Int.le_refl _, by show (0 : Int) ≤ 40; omega⟩, Nat.zero_le _, rfl, fun i hi => absurd hi (Nat.not_lt_zero _)⟩
  · rw [decide_eq_false h]; exact rB_false fun k => h k.1
theorem newOk {w : World} {p : Option Addr} {n c : Nat} {xs : List Int} (hn : n ≤ 9223372036854775807) (hx : xs.length = n) (h : BytesIn w p n xs) (hb : ∀ x ∈ xs, 0 ≤ x ∧ x < 256) (pa pb : Option Addr) (ca cb : Nat) : RdA.Ok w ⟨⟨p, n, c, xs⟩, 0, pa, 0, ca, [], pb, 0, cb, []⟩ :=
  ⟨⟨hn, hx, h, hb⟩, ⟨by show (-9223372036854775808 : Int) ≤ 0; omega, by show (0 : Int) ≤ 9223372036854775807; omega⟩, Rows.nil _ _, Rows.nil _ _⟩
theorem buildR (w : World) (p : Option Addr) (n c : Nat) : (Instr.build 28 #[(0, .slice p n c)]).run Tryz.prog w = .ok (.agg #[.slice p n c, .int .i64 0, .slice none 0 0, .slice none 0 0]) w := by kernel_rfl
theorem buildZ (w : World) : (Instr.build 28 #[]).run Tryz.prog w = .ok (.agg #[.slice none 0 0, .int .i64 0, .slice none 0 0, .slice none 0 0]) w := by kernel_rfl
theorem buildA (w : World) (p q r : Option Addr) (n c m d k f : Nat) (e : Int) : (Instr.build 28 #[(0, .slice p n c), (1, .int .i64 e), (2, .slice q m d), (3, .slice r k f)]).run Tryz.prog w = .ok (.agg #[.slice p n c, .int .i64 e, .slice q m d, .slice r k f]) w := by kernel_rfl
theorem own_none (w : World) (lo : Nat) : Own 5 w lo w.heap.size (.slice none 0 0) 0 [] := ⟨⟨rfl, .inl ⟨rfl, rfl⟩⟩, fun k hk => by cases hk⟩

theorem below_to {w a b : World} (h : Below w.heap.size w a) (k : Below w.heap.size a b) : Below w.heap.size w b := h.trans k

set_option maxHeartbeats 4000000 in
theorem copiedLists_nil (p : Option Addr) (c : Nat) (w : World) :
    Calls Tryz.prog 110 #[.slice p 0 c] w fun z w' => ∃ p' c', z = .returned (.slice p' 0 c') ∧ Below w.heap.size w w' := by
  obtain ⟨i0, hi, hz0, hz1, hz2⟩ := info_parts infoRow
  have hmk : ∀ W, (Instr.makeSlice 26 (.int .i64 0) (.int .i64 0)).run Tryz.prog W = .ok (.slice (some ⟨W.heap.size, 0, none⟩) 0 0) (W.alloc (.cells #[] 22)) := fun W => by
    have := run_makeSlice (P := Tryz.prog) W 26 22 i0 (.slice none 0 0) Tryz.underlying26 hi hz0 .i64 .i64 0 0 (by omega) (by omega) (by rw [hz1]; simp) (by rw [hz2]; omega) (by omega)
    simpa [hz1, Value.cells, show madeCells #[Value.slice none 0 0] 0 = #[] from Array.toList_inj.1 (by rw [made_rows]; rfl)] using this
  have ba : ∀ o, Below w.heap.size w (w.alloc o) := fun o => made_below _ _ (Below.refl _ _)
  go_enter Tryz.func110, Tryz.ntmps110
  go_wp2_with (fail)
  go_loopw [11] (fun i wr => i = .int .i64 0 ∧ Below w.heap.size w wr) (fun _ _ => 0)
  case atStart => exact ⟨rfl, ba _⟩
  case round =>
    obtain ⟨rfl, hbel⟩ := hrel
    go_wp2_with (fail)
    go_ret
    exact ⟨_, _, rfl, hbel⟩

set_option maxHeartbeats 8000000 in
theorem copiedReader_new (p : Option Addr) (n c : Nat) (xs : List Int) (w : World) (hn : n ≤ 1048576) (hx : xs.length = n) (h : BytesIn w p n xs) :
    Calls Tryz.prog 64 #[.agg #[.slice p n c, .int .i64 0, .slice none 0 0, .slice none 0 0]] w fun z w' => ∃ p' c' qa ca qb cb, z = .returned (.agg #[.slice p' n c', .int .i64 0, .slice qa 0 ca, .slice qb 0 cb]) ∧ Own 5 w' w.heap.size w'.heap.size (.slice p' n c') n xs ∧ Below w.heap.size w w' := by
  have bA := buildA
  have T0 := fun X (b : Below w.heap.size w X) => copied_any p n c xs X hn hx (in_below h b)
  clear h
  go_enter Tryz.func64, Tryz.ntmps64
  go_wp2_with (fail)
  obtain ⟨W1, hW1⟩ : ∃ W1, (w.alloc (.cells #[.slice p n c, .int .i64 0, .slice none 0 0, .slice none 0 0] 28)).alloc (.cells #[.slice none 0 0, .int .i64 0, .slice none 0 0, .slice none 0 0] 28) = W1 := ⟨_, rfl⟩
  have CR : Cells W1 w.heap.size #[.slice p n c, .int .i64 0, .slice none 0 0, .slice none 0 0] := by rw [← hW1]; exact (Cells.made w _ _).on (made_below _ _ (Below.refl _ _))
  have CZ : Cells W1 (w.heap.size + 1) #[.slice none 0 0, .int .i64 0, .slice none 0 0, .slice none 0 0] := by
    have k := Cells.made (w.alloc (.cells #[.slice p n c, .int .i64 0, .slice none 0 0, .slice none 0 0] 28)) #[.slice none 0 0, .int .i64 0, .slice none 0 0, .slice none 0 0] 28
    rw [show (w.alloc (.cells #[.slice p n c, .int .i64 0, .slice none 0 0, .slice none 0 0] 28)).heap.size = w.heap.size + 1 by simp, hW1] at k
    exact k
  have k1 : Below w.heap.size w W1 := by rw [← hW1]; exact made_below _ _ (made_below _ _ (Below.refl _ _))
  have s1 : W1.heap.size = w.heap.size + 1 + 1 := by rw [← hW1]; simp
  rw [hW1]
  clear hW1
  have kd : Below w.heap.size w W1.drew := k1.drew
  have CZd : Cells W1.drew (w.heap.size + 1) #[.slice none 0 0, .int .i64 0, .slice none 0 0, .slice none 0 0] := CZ.on (Below.refl _ _).drew
  have CRd : Cells W1.drew w.heap.size #[.slice p n c, .int .i64 0, .slice none 0 0, .slice none 0 0] := CR.on (Below.refl _ _).drew
  have HK : ∀ X, Cells X w.heap.size #[.slice p n c, .int .i64 0, .slice none 0 0, .slice none 0 0] → X.cell? ⟨w.heap.size, 0, none⟩ = some (.slice p n c) ∧ X.cell? ⟨w.heap.size, 1, none⟩ = some (.int .i64 0) ∧ X.cell? ⟨w.heap.size, 2, none⟩ = some (.slice none 0 0) ∧ X.cell? ⟨w.heap.size, 3, none⟩ = some (.slice none 0 0) := fun X hX => ⟨(hX.2 0).1, (hX.2 1).1, (hX.2 2).1, (hX.2 3).1⟩
  have ne : w.heap.size ≠ w.heap.size + 1 := by omega
  have mark : True := trivial
  have LC := fun (X : World) => copiedLists_nil none 0 X
  go_region_held3 (fun X => X.cell? ⟨w.heap.size, 0, none⟩ = some (.slice p n c) ∧ X.cell? ⟨w.heap.size, 1, none⟩ = some (.int .i64 0) ∧ X.cell? ⟨w.heap.size, 2, none⟩ = some (.slice none 0 0) ∧ X.cell? ⟨w.heap.size, 3, none⟩ = some (.slice none 0 0)) (exact HK _ (by repeat (with_reducible (first | exact CRd | refine Cells.other ?_ _ ne | refine Cells.on ?_ b2 | refine Cells.on ?_ b3 | refine Cells.on ?_ b4)))) (first | (go_at_call 62; refine (T0 _ kd).mono ?_; rintro z w2 ⟨p2, c2, rfl, r2, b2⟩) | (clear mark; go_at_call 110; refine (LC _).mono ?_; rintro z w3 ⟨p3, c3, rfl, b3⟩) | (go_at_call 110; refine (LC _).mono ?_; rintro z w4 ⟨p4, c4, rfl, b4⟩; have Z4 : Cells w4 (w.heap.size + 1) #[.slice none 0 0, .int .i64 0, .slice none 0 0, .slice none 0 0] := ((CZd.on b2).on b3).on b4; have m0 : w4.cell? ⟨w.heap.size + 1, 0, none⟩ = some (.slice none 0 0) := (Z4.2 0).1; have f0 := (Z4.2 0).2; have D0 := Z4.set 0 (by simp) (.slice p2 n c2); have m1 : (w4.setCell ⟨w.heap.size + 1, 0, none⟩ (.slice p2 n c2)).cell? ⟨w.heap.size + 1, 1, none⟩ = some (.int .i64 0) := (D0.2 1).1; have f1 := (D0.2 1).2; have D1 := D0.set 1 (by simp) (.int .i64 0); have m2 : ((w4.setCell ⟨w.heap.size + 1, 0, none⟩ (.slice p2 n c2)).setCell ⟨w.heap.size + 1, 1, none⟩ (.int .i64 0)).cell? ⟨w.heap.size + 1, 2, none⟩ = some (.slice none 0 0) := (D1.2 2).1; have f2 := (D1.2 2).2; have D2 := D1.set 2 (by simp) (.slice p3 0 c3); have m3 : (((w4.setCell ⟨w.heap.size + 1, 0, none⟩ (.slice p2 n c2)).setCell ⟨w.heap.size + 1, 1, none⟩ (.int .i64 0)).setCell ⟨w.heap.size + 1, 2, none⟩ (.slice p3 0 c3)).cell? ⟨w.heap.size + 1, 3, none⟩ = some (.slice none 0 0) := (D2.2 3).1; have f3 := (D2.2 3).2; have D3 := D2.set 3 (by simp) (.slice p4 0 c4)))
  have lt : w.heap.size + 1 < W1.drew.heap.size := by show w.heap.size + 1 < W1.heap.size; omega
  have r4 := (r2.on b3).on b4
  obtain ⟨X3, hX3⟩ : ∃ X3, X3 = ((((w4.setCell ⟨w.heap.size + 1, 0, none⟩ (.slice p2 n c2)).setCell ⟨w.heap.size + 1, 1, none⟩ (.int .i64 0)).setCell ⟨w.heap.size + 1, 2, none⟩ (.slice p3 0 c3)).setCell ⟨w.heap.size + 1, 3, none⟩ (.slice p4 0 c4)) := ⟨_, rfl⟩
  have r9 := (Own.set_below (Own.set_below (Own.set_below (Own.set_below r4 (a := ⟨w.heap.size + 1, 0, none⟩) lt (.slice p2 n c2)) (a := ⟨w.heap.size + 1, 1, none⟩) lt (.int .i64 0)) (a := ⟨w.heap.size + 1, 2, none⟩) lt (.slice p3 0 c3)) (a := ⟨w.heap.size + 1, 3, none⟩) lt (.slice p4 0 c4))
  rw [← hX3] at r9
  have k4 := below_on (below_on (below_on kd b2) b3) b4
  have bX : Below w.heap.size w X3 := by rw [hX3]; exact (((k4.setCell (show w.heap.size ≤ w.heap.size + 1 by omega) _).setCell (show w.heap.size ≤ w.heap.size + 1 by omega) _).setCell (show w.heap.size ≤ w.heap.size + 1 by omega) _).setCell (show w.heap.size ≤ w.heap.size + 1 by omega) _
  have sX : w2.heap.size ≤ X3.heap.size := by rw [hX3]; simp; have := b3.size; have := b4.size; omega
  rw [← hX3] at D3
  have y0 : X3.cell? ⟨w.heap.size + 1, 0, none⟩ = some (.slice p2 n c2) := (D3.2 0).1
  have y1 : X3.cell? ⟨w.heap.size + 1, 1, none⟩ = some (.int .i64 0) := (D3.2 1).1
  have y2 : X3.cell? ⟨w.heap.size + 1, 2, none⟩ = some (.slice p3 0 c3) := (D3.2 2).1
  have y3 : X3.cell? ⟨w.heap.size + 1, 3, none⟩ = some (.slice p4 0 c4) := (D3.2 3).1
  replace hX3 : Hid (((((w4.setCell ⟨w.heap.size + 1, 0, none⟩ (.slice p2 n c2)).setCell ⟨w.heap.size + 1, 1, none⟩ (.int .i64 0)).setCell ⟨w.heap.size + 1, 2, none⟩ (.slice p3 0 c3)).setCell ⟨w.heap.size + 1, 3, none⟩ (.slice p4 0 c4)) = X3) := hX3.symm
  clear D0 D1 D2 D3 Z4 r2 r4 k4 b2 b3 b4 CZd CRd HK CR CZ k1 kd T0 LC
  rw [hX3.out]
  go_wp2_with (fail)
  refine bodyPost_ret (v := .agg #[.slice p2 n c2, .int .i64 0, .slice p3 0 c3, .slice p4 0 c4]) ?_ rfl ⟨p2, c2, p3, c3, p4, c4, rfl, ⟨owns_mono r9.1 (by omega), fun k hk => Nat.lt_of_lt_of_le (r9.2 k hk) sX⟩, bX⟩
  simp only [results, Tryz.f64]
  go_simp

end Go.Proofs.YthfnechcddmjkaaGreatDoor

namespace Go.Proofs.YthfnechcddmjkaaGreatDoor
open Go.RowKit
set_option maxRecDepth 100000

theorem markByteSS_nil (p : Option Addr) (c : Nat) (k : Int) (w : World) :
    Calls Tryz.prog 71 #[.slice p 0 c, .int .i64 k] w fun z w' => z = .returned (.int .i64 k) ∧ w' = w := by
  go_enter Tryz.func71, Tryz.ntmps71
  go_wp2_with (fail)
  go_loopw [1, 5] (fun q i wr => q = .int .i64 k ∧ i = .int .i64 0 ∧ wr = w) (fun _ _ _ => 0)
  case atStart => exact ⟨rfl, rfl, rfl⟩
  case round =>
    obtain ⟨rfl, rfl, rfl⟩ := hrel
    go_wp2_with (fail)
    go_ret
    exact ⟨rfl, rfl⟩
theorem heldByteSS_nil (p : Option Addr) (c : Nat) (k : Int) (w : World) :
    Calls Tryz.prog 74 #[.slice p 0 c, .int .i64 k] w fun z w' => z = .returned (.int .i64 k) ∧ w' = w := by
  go_enter Tryz.func74, Tryz.ntmps74
  go_wp2_with (fail)
  go_loopw [1, 5] (fun q i wr => q = .int .i64 k ∧ i = .int .i64 0 ∧ wr = w) (fun _ _ _ => 0)
  case atStart => exact ⟨rfl, rfl, rfl⟩
  case round =>
    obtain ⟨rfl, rfl, rfl⟩ := hrel
    go_wp2_with (fail)
    go_ret
    exact ⟨rfl, rfl⟩

set_option maxHeartbeats 2000000 in
theorem markReader_own (lo hi : Nat) (p pa pb : Option Addr) (n c ca cb : Nat) (e : Int) (xs : List Int) (k : Int) (w : World) (hn : n ≤ 1048576) (hk : 0 ≤ k) (hk2 : k ≤ 1048576) (h0 : hi ≤ w.heap.size) (h : Own 5 w lo hi (.slice p n c) n xs) :
    Calls Tryz.prog 29 #[.agg #[.slice p n c, .int .i64 e, .slice pa 0 ca, .slice pb 0 cb], .int .i64 k] w fun z w' => z = .returned (.int .i64 (k + n)) ∧ ∃ wa, Below w.heap.size w wa ∧ wa.grownBy w' (Value.ownBlock (.slice p n c)) ∧ Own 5 w' lo hi (.slice p n c) n (marks k n) := by
  have kA : ∀ o, Below w.heap.size w (w.alloc o) := fun o => made_below _ _ (Below.refl _ _)
  have M := fun k X => markByteSS_nil pa ca k X
  have M' := fun k X => markByteSS_nil pb cb k X
  go_enter Tryz.func29, Tryz.ntmps29
  go_wp2_with (fail)
  refine (markByteS_own lo hi p n c xs k _ (by omega) hk (by omega) (h.on (kA _))).mono ?_
  rintro z w1 ⟨rfl, r1, g1⟩
  have C1 := (Cells.made w _ _).grown g1 (fun x => by have := h.2 _ x.symm; omega)
  have l2 : w1.cell? ⟨w.heap.size, 2, none⟩ = some (.slice pa 0 ca) := (C1.2 2).1
  have l3 : w1.cell? ⟨w.heap.size, 3, none⟩ = some (.slice pb 0 cb) := (C1.2 3).1
  obtain ⟨k', hk'⟩ : ∃ k' : Int, k' = k + n := ⟨_, rfl⟩
  rw [← hk']
  replace hk' : Hid (k' = k + n) := hk'
  go_wp2_with (fail)
  refine (M k' _).mono ?_
  rintro z w2 ⟨rfl, rfl⟩
  go_wp2_with (fail)
  refine (M' k' _).mono ?_
  rintro z w2 ⟨rfl, rfl⟩
  go_wp2_with (fail)
  go_ret
  rw [← hk'.out]
  exact ⟨rfl, _, kA _, g1, r1⟩

set_option maxHeartbeats 2000000 in
theorem heldReader_new (p pa pb : Option Addr) (n c ca cb : Nat) (e k : Int) (w : World) (hn : n ≤ 1048576) (hk : 0 ≤ k) (hk2 : k ≤ 1048576) (h : BytesIn w p n (marks k n)) :
    Calls Tryz.prog 33 #[.agg #[.slice p n c, .int .i64 e, .slice pa 0 ca, .slice pb 0 cb], .int .i64 k] w fun z w' => z = .returned (.int .i64 (k + n)) ∧ Below w.heap.size w w' := by
  have kA : ∀ o, Below w.heap.size w (w.alloc o) := fun o => made_below _ _ (Below.refl _ _)
  have M := fun k X => heldByteSS_nil pa ca k X
  have M' := fun k X => heldByteSS_nil pb cb k X
  go_enter Tryz.func33, Tryz.ntmps33
  go_wp2_with (fail)
  refine (heldByteS_any p n c k _ (by omega) hk (by omega) (in_below h (kA _))).mono ?_
  rintro z w1 ⟨rfl, b1⟩
  have C1 := (Cells.made w _ _).on b1
  have k1 := made_below _ _ b1
  clear b1 kA
  have l2 : w1.cell? ⟨w.heap.size, 2, none⟩ = some (.slice pa 0 ca) := (C1.2 2).1
  have l3 : w1.cell? ⟨w.heap.size, 3, none⟩ = some (.slice pb 0 cb) := (C1.2 3).1
  obtain ⟨k', hk'⟩ : ∃ k' : Int, k' = k + n := ⟨_, rfl⟩
  have b0 : ¬ k' < 0 := by omega
  rw [← hk']
  replace hk' : Hid (k' = k + n) := hk'
  go_wp2_with (fail)
  refine (M k' _).mono ?_
  rintro z w2 ⟨rfl, rfl⟩
  go_wp2_with (fail)
  refine (M' k' _).mono ?_
  rintro z w2 ⟨rfl, rfl⟩
  go_wp2_with (fail)
  go_ret
  rw [← hk'.out]
  exact ⟨rfl, k1⟩

theorem newSame (p p' pa pb qa qb : Option Addr) (n c c' ca cb da db : Nat) (xs : List Int) (w : World) (hn : n ≤ 1048576) (hx : xs.length = n) (hb : ∀ x ∈ xs, 0 ≤ x ∧ x < 256) (h : BytesIn w p n xs) (h' : BytesIn w p' n xs) :
    Calls Tryz.prog 25 #[.agg #[.slice p n c, .int .i64 0, .slice pa 0 ca, .slice pb 0 cb], .agg #[.slice p' n c', .int .i64 0, .slice qa 0 da, .slice qb 0 db]] w fun z w' => z = .returned (.bool true) ∧ Below w.heap.size w w' := by
  have C := eqReader_any ⟨⟨p, n, c, xs⟩, 0, pa, 0, ca, [], pb, 0, cb, []⟩ ⟨⟨p', n, c', xs⟩, 0, qa, 0, da, [], qb, 0, db, []⟩ w (newOk (by omega) hx h hb pa pb ca cb) (newOk (by omega) hx h' hb qa qb da db)
  rw [decide_eq_true (show RdA.con ⟨⟨p, n, c, xs⟩, 0, pa, 0, ca, [], pb, 0, cb, []⟩ = RdA.con ⟨⟨p', n, c', xs⟩, 0, qa, 0, da, [], qb, 0, db, []⟩ from rfl)] at C
  exact C

end Go.Proofs.YthfnechcddmjkaaGreatDoor

namespace Go.Proofs.YthfnechcddmjkaaGreatDoor
open Go.RowKit
set_option maxRecDepth 100000

theorem eqItems_nil (p q : Option Addr) (c d : Nat) (w : World) : Calls Tryz.prog 66 #[.slice p 0 c, .slice q 0 d] w fun e w' => e = .returned (.bool true) ∧ w' = w := by
  go_enter Tryz.func66, Tryz.ntmps66
  go_wp2_with (fail)
  refine wp_loop_rounds 1 ?_
  rw [rounds_succ]
  go_wp2_with (fail)
  go_ret
  exact ⟨rfl, rfl⟩
theorem markItems_nil (p : Option Addr) (c : Nat) (k : Int) (w : World) : Calls Tryz.prog 70 #[.slice p 0 c, .int .i64 k] w fun e w' => e = .returned (.int .i64 k) ∧ w' = w := by
  go_enter Tryz.func70, Tryz.ntmps70
  go_wp2_with (fail)
  refine wp_loop_rounds 1 ?_
  rw [rounds_succ]
  go_wp2_with (fail)
  go_ret
  exact ⟨rfl, rfl⟩
theorem heldItems_nil (p : Option Addr) (c : Nat) (k : Int) (w : World) : Calls Tryz.prog 73 #[.slice p 0 c, .int .i64 k] w fun e w' => e = .returned (.int .i64 k) ∧ w' = w := by
  go_enter Tryz.func73, Tryz.ntmps73
  go_wp2_with (fail)
  refine wp_loop_rounds 1 ?_
  rw [rounds_succ]
  go_wp2_with (fail)
  go_ret
  exact ⟨rfl, rfl⟩
theorem eqWires_nil (p q : Option Addr) (c d : Nat) (w : World) : Calls Tryz.prog 26 #[.slice p 0 c, .slice q 0 d] w fun e w' => e = .returned (.bool true) ∧ w' = w := by
  go_enter Tryz.func26, Tryz.ntmps26
  go_wp2_with (fail)
  refine wp_loop_rounds 1 ?_
  rw [rounds_succ]
  go_wp2_with (fail)
  go_ret
  exact ⟨rfl, rfl⟩
theorem markWires_nil (p : Option Addr) (c : Nat) (k : Int) (w : World) : Calls Tryz.prog 30 #[.slice p 0 c, .int .i64 k] w fun e w' => e = .returned (.int .i64 k) ∧ w' = w := by
  go_enter Tryz.func30, Tryz.ntmps30
  go_wp2_with (fail)
  refine wp_loop_rounds 1 ?_
  rw [rounds_succ]
  go_wp2_with (fail)
  go_ret
  exact ⟨rfl, rfl⟩
theorem heldWires_nil (p : Option Addr) (c : Nat) (k : Int) (w : World) : Calls Tryz.prog 34 #[.slice p 0 c, .int .i64 k] w fun e w' => e = .returned (.int .i64 k) ∧ w' = w := by
  go_enter Tryz.func34, Tryz.ntmps34
  go_wp2_with (fail)
  refine wp_loop_rounds 1 ?_
  rw [rounds_succ]
  go_wp2_with (fail)
  go_ret
  exact ⟨rfl, rfl⟩
theorem eqSents_nil (p q : Option Addr) (c d : Nat) (w : World) : Calls Tryz.prog 27 #[.slice p 0 c, .slice q 0 d] w fun e w' => e = .returned (.bool true) ∧ w' = w := by
  go_enter Tryz.func27, Tryz.ntmps27
  go_wp2_with (fail)
  refine wp_loop_rounds 1 ?_
  rw [rounds_succ]
  go_wp2_with (fail)
  go_ret
  exact ⟨rfl, rfl⟩
theorem markSents_nil (p : Option Addr) (c : Nat) (k : Int) (w : World) : Calls Tryz.prog 31 #[.slice p 0 c, .int .i64 k] w fun e w' => e = .returned (.int .i64 k) ∧ w' = w := by
  go_enter Tryz.func31, Tryz.ntmps31
  go_wp2_with (fail)
  refine wp_loop_rounds 1 ?_
  rw [rounds_succ]
  go_wp2_with (fail)
  go_ret
  exact ⟨rfl, rfl⟩
theorem heldSents_nil (p : Option Addr) (c : Nat) (k : Int) (w : World) : Calls Tryz.prog 35 #[.slice p 0 c, .int .i64 k] w fun e w' => e = .returned (.int .i64 k) ∧ w' = w := by
  go_enter Tryz.func35, Tryz.ntmps35
  go_wp2_with (fail)
  refine wp_loop_rounds 1 ?_
  rw [rounds_succ]
  go_wp2_with (fail)
  go_ret
  exact ⟨rfl, rfl⟩
theorem markBytes_nil (p : Option Addr) (c : Nat) (k : Int) (w : World) : Calls Tryz.prog 10 #[.slice p 0 c, .int .i64 k] w fun e w' => e = .returned (.int .i64 k) ∧ w' = w := by
  go_enter Tryz.func10, Tryz.ntmps10
  go_wp2_with (fail)
  refine wp_loop_rounds 1 ?_
  rw [rounds_succ]
  go_wp2_with (fail)
  go_ret
  exact ⟨rfl, rfl⟩
theorem heldBytes_nil (p : Option Addr) (c : Nat) (k : Int) (w : World) : Calls Tryz.prog 17 #[.slice p 0 c, .int .i64 k] w fun e w' => e = .returned (.int .i64 k) ∧ w' = w := by
  go_enter Tryz.func17, Tryz.ntmps17
  go_wp2_with (fail)
  refine wp_loop_rounds 1 ?_
  rw [rounds_succ]
  go_wp2_with (fail)
  go_ret
  exact ⟨rfl, rfl⟩
theorem eqPost_new (q b q' b' : Option Addr) (c d c' d' : Nat) (w : World) : Calls Tryz.prog 24 #[.agg #[.slice q 0 c, .int .i64 0, .slice b 0 d, .int .i64 0], .agg #[.slice q' 0 c', .int .i64 0, .slice b' 0 d', .int .i64 0]] w fun e w' => e = .returned (.bool true) ∧ Below w.heap.size w w' := by
  obtain ⟨W0, hW0⟩ : ∃ X, X = w.alloc (.cells #[.slice q 0 c, .int .i64 0, .slice b 0 d, .int .i64 0] 25) := ⟨_, rfl⟩
  have a0 : Below w.heap.size w W0 := by rw [hW0]; exact (Below.refl _ _).alloc (Nat.le_refl _) _
  have C0 : Cells W0 w.heap.size #[.slice q 0 c, .int .i64 0, .slice b 0 d, .int .i64 0] := by rw [hW0]; exact Cells.made _ _ _
  replace hW0 : Hid (w.alloc (.cells #[.slice q 0 c, .int .i64 0, .slice b 0 d, .int .i64 0] 25) = W0) := hW0.symm
  have k0' : Below w.heap.size w W0 := a0
  obtain ⟨W1, hW1⟩ : ∃ X, X = W0.alloc (.cells #[.slice q' 0 c', .int .i64 0, .slice b' 0 d', .int .i64 0] 25) := ⟨_, rfl⟩
  have a1 : Below W0.heap.size W0 W1 := by rw [hW1]; exact (Below.refl _ _).alloc (Nat.le_refl _) _
  have C1 : Cells W1 W0.heap.size #[.slice q' 0 c', .int .i64 0, .slice b' 0 d', .int .i64 0] := by rw [hW1]; exact Cells.made _ _ _
  replace hW1 : Hid (W0.alloc (.cells #[.slice q' 0 c', .int .i64 0, .slice b' 0 d', .int .i64 0] 25) = W1) := hW1.symm
  replace C0 := C0.on a1
  have k1' : Below w.heap.size w W1 := below_on k0' a1
  have l0_0 : W1.cell? ⟨w.heap.size, 0, none⟩ = some (.slice q 0 c) := (C0.2 0).1
  have l0_1 : W1.cell? ⟨w.heap.size, 1, none⟩ = some (.int .i64 0) := (C0.2 1).1
  have l0_2 : W1.cell? ⟨w.heap.size, 2, none⟩ = some (.slice b 0 d) := (C0.2 2).1
  have l0_3 : W1.cell? ⟨w.heap.size, 3, none⟩ = some (.int .i64 0) := (C0.2 3).1
  have l1_0 : W1.cell? ⟨W0.heap.size, 0, none⟩ = some (.slice q' 0 c') := (C1.2 0).1
  have l1_1 : W1.cell? ⟨W0.heap.size, 1, none⟩ = some (.int .i64 0) := (C1.2 1).1
  have l1_2 : W1.cell? ⟨W0.heap.size, 2, none⟩ = some (.slice b' 0 d') := (C1.2 2).1
  have l1_3 : W1.cell? ⟨W0.heap.size, 3, none⟩ = some (.int .i64 0) := (C1.2 3).1
  go_enter Tryz.func24, Tryz.ntmps24
  go_wp2_with (first | rw [hW0.out] | rw [hW1.out])
  refine (eqItems_nil _ _ _ _ _).mono ?_
  rintro e wz ⟨rfl, rfl⟩
  go_wp2_with (fail)
  refine ((eqByteS_any b b' 0 0 d d' [] [] _ (by omega) rfl rfl (fun h => absurd h (Nat.lt_irrefl 0)) (fun h => absurd h (Nat.lt_irrefl 0)))).mono ?_
  rintro e w1 ⟨rfl, b1⟩
  have k1 := below_on k1' b1
  replace C0 := C0.on b1
  replace C1 := C1.on b1
  clear l0_0 l0_1 l0_2 l0_3 l1_0 l1_1 l1_2 l1_3
  have l0_0 : w1.cell? ⟨w.heap.size, 0, none⟩ = some (.slice q 0 c) := (C0.2 0).1
  have l0_1 : w1.cell? ⟨w.heap.size, 1, none⟩ = some (.int .i64 0) := (C0.2 1).1
  have l0_2 : w1.cell? ⟨w.heap.size, 2, none⟩ = some (.slice b 0 d) := (C0.2 2).1
  have l0_3 : w1.cell? ⟨w.heap.size, 3, none⟩ = some (.int .i64 0) := (C0.2 3).1
  have l1_0 : w1.cell? ⟨W0.heap.size, 0, none⟩ = some (.slice q' 0 c') := (C1.2 0).1
  have l1_1 : w1.cell? ⟨W0.heap.size, 1, none⟩ = some (.int .i64 0) := (C1.2 1).1
  have l1_2 : w1.cell? ⟨W0.heap.size, 2, none⟩ = some (.slice b' 0 d') := (C1.2 2).1
  have l1_3 : w1.cell? ⟨W0.heap.size, 3, none⟩ = some (.int .i64 0) := (C1.2 3).1
  go_wp2_with (fail)
  go_ret
  exact ⟨rfl, k1⟩
theorem markPost_new (q b : Option Addr) (c d : Nat) (k : Int) (w : World) : Calls Tryz.prog 28 #[.agg #[.slice q 0 c, .int .i64 0, .slice b 0 d, .int .i64 0], .int .i64 k] w fun e w' => e = .returned (.int .i64 k) ∧ Below w.heap.size w w' := by
  obtain ⟨W0, hW0⟩ : ∃ X, X = w.alloc (.cells #[.slice q 0 c, .int .i64 0, .slice b 0 d, .int .i64 0] 25) := ⟨_, rfl⟩
  have a0 : Below w.heap.size w W0 := by rw [hW0]; exact (Below.refl _ _).alloc (Nat.le_refl _) _
  have C0 : Cells W0 w.heap.size #[.slice q 0 c, .int .i64 0, .slice b 0 d, .int .i64 0] := by rw [hW0]; exact Cells.made _ _ _
  replace hW0 : Hid (w.alloc (.cells #[.slice q 0 c, .int .i64 0, .slice b 0 d, .int .i64 0] 25) = W0) := hW0.symm
  have k0' : Below w.heap.size w W0 := a0
  have l0_0 : W0.cell? ⟨w.heap.size, 0, none⟩ = some (.slice q 0 c) := (C0.2 0).1
  have l0_1 : W0.cell? ⟨w.heap.size, 1, none⟩ = some (.int .i64 0) := (C0.2 1).1
  have l0_2 : W0.cell? ⟨w.heap.size, 2, none⟩ = some (.slice b 0 d) := (C0.2 2).1
  have l0_3 : W0.cell? ⟨w.heap.size, 3, none⟩ = some (.int .i64 0) := (C0.2 3).1
  go_enter Tryz.func28, Tryz.ntmps28
  go_wp2_with (rw [hW0.out])
  refine (markItems_nil _ _ k _).mono ?_
  rintro e wz ⟨rfl, rfl⟩
  go_wp2_with (fail)
  refine (markBytes_nil _ _ k _).mono ?_
  rintro e wz ⟨rfl, rfl⟩
  go_wp2_with (fail)
  go_ret
  exact ⟨rfl, k0'⟩
theorem heldPost_new (q b : Option Addr) (c d : Nat) (k : Int) (w : World) (hk : 0 ≤ k) : Calls Tryz.prog 32 #[.agg #[.slice q 0 c, .int .i64 0, .slice b 0 d, .int .i64 0], .int .i64 k] w fun e w' => e = .returned (.int .i64 k) ∧ Below w.heap.size w w' := by
  have g1 : ¬ k < 0 := by omega
  obtain ⟨W0, hW0⟩ : ∃ X, X = w.alloc (.cells #[.slice q 0 c, .int .i64 0, .slice b 0 d, .int .i64 0] 25) := ⟨_, rfl⟩
  have a0 : Below w.heap.size w W0 := by rw [hW0]; exact (Below.refl _ _).alloc (Nat.le_refl _) _
  have C0 : Cells W0 w.heap.size #[.slice q 0 c, .int .i64 0, .slice b 0 d, .int .i64 0] := by rw [hW0]; exact Cells.made _ _ _
  replace hW0 : Hid (w.alloc (.cells #[.slice q 0 c, .int .i64 0, .slice b 0 d, .int .i64 0] 25) = W0) := hW0.symm
  have k0' : Below w.heap.size w W0 := a0
  have l0_0 : W0.cell? ⟨w.heap.size, 0, none⟩ = some (.slice q 0 c) := (C0.2 0).1
  have l0_1 : W0.cell? ⟨w.heap.size, 1, none⟩ = some (.int .i64 0) := (C0.2 1).1
  have l0_2 : W0.cell? ⟨w.heap.size, 2, none⟩ = some (.slice b 0 d) := (C0.2 2).1
  have l0_3 : W0.cell? ⟨w.heap.size, 3, none⟩ = some (.int .i64 0) := (C0.2 3).1
  go_enter Tryz.func32, Tryz.ntmps32
  go_wp2_with (rw [hW0.out])
  refine (heldItems_nil _ _ k _).mono ?_
  rintro e wz ⟨rfl, rfl⟩
  go_wp2_with (fail)
  refine (heldBytes_nil _ _ k _).mono ?_
  rintro e wz ⟨rfl, rfl⟩
  go_wp2_with (fail)
  go_ret
  exact ⟨rfl, k0'⟩
end Go.Proofs.YthfnechcddmjkaaGreatDoor

namespace Go.Proofs.YthfnechcddmjkaaGreatDoor
open Go.RowKit
set_option maxRecDepth 100000

theorem eqBytes_same (p p' : Option Addr) (n c c' : Nat) (xs : List Int) (w : World) (hn : n ≤ 1048576) (hx : xs.length = n) (h : BytesIn w p n xs) (h' : BytesIn w p' n xs) : Calls Tryz.prog 9 #[.slice p n c, .slice p' n c'] w fun e w' => e = .returned (.bool true) ∧ Below w.heap.size w w' := (eqByteS_any p p' n n c c' xs xs w (by omega) hx hx h h').mono fun e w' ⟨a, b⟩ => ⟨by rw [a, decide_eq_true rfl], b⟩
set_option maxHeartbeats 4000000 in
theorem eqWorld_new (p qa qb r s t p' qa' qb' r' s' t' : Option Addr) (n m c ca cb d cs ct c' ca' cb' d' cs' ct' : Nat) (xs ys : List Int) (w : World) (hn : n ≤ 1048576) (hx : xs.length = n) (hm : m ≤ 1048576) (hy : ys.length = m) (hb : ∀ x ∈ ys, 0 ≤ x ∧ x < 256) (h : BytesIn w p n xs) (h' : BytesIn w p' n xs) (j : BytesIn w r m ys) (j' : BytesIn w r' m ys) : Calls Tryz.prog 8 #[.agg #[.slice p n c, .int .i64 0, .int .i64 0, .slice qa 0 ca, .int .i64 0, .slice qb 0 cb, .int .i64 0, .slice r m d, .int .i64 0, .slice s 0 cs, .slice t 0 ct, .slice none 0 0, .slice none 0 0], .agg #[.slice p' n c', .int .i64 0, .int .i64 0, .slice qa' 0 ca', .int .i64 0, .slice qb' 0 cb', .int .i64 0, .slice r' m d', .int .i64 0, .slice s' 0 cs', .slice t' 0 ct', .slice none 0 0, .slice none 0 0]] w fun e w' => e = .returned (.bool true) ∧ Below w.heap.size w w' := by
  obtain ⟨W0, hW0⟩ : ∃ X, X = w.alloc (.cells #[.slice p n c, .int .i64 0, .int .i64 0, .slice qa 0 ca, .int .i64 0, .slice qb 0 cb, .int .i64 0, .slice r m d, .int .i64 0, .slice s 0 cs, .slice t 0 ct, .slice none 0 0, .slice none 0 0] 32) := ⟨_, rfl⟩
  have a0 : Below w.heap.size w W0 := by rw [hW0]; exact (Below.refl _ _).alloc (Nat.le_refl _) _
  have C0 : Cells W0 w.heap.size #[.slice p n c, .int .i64 0, .int .i64 0, .slice qa 0 ca, .int .i64 0, .slice qb 0 cb, .int .i64 0, .slice r m d, .int .i64 0, .slice s 0 cs, .slice t 0 ct, .slice none 0 0, .slice none 0 0] := by rw [hW0]; exact Cells.made _ _ _
  replace hW0 : Hid (w.alloc (.cells #[.slice p n c, .int .i64 0, .int .i64 0, .slice qa 0 ca, .int .i64 0, .slice qb 0 cb, .int .i64 0, .slice r m d, .int .i64 0, .slice s 0 cs, .slice t 0 ct, .slice none 0 0, .slice none 0 0] 32) = W0) := hW0.symm
  have k0' : Below w.heap.size w W0 := a0
  obtain ⟨W1, hW1⟩ : ∃ X, X = W0.alloc (.cells #[.slice p' n c', .int .i64 0, .int .i64 0, .slice qa' 0 ca', .int .i64 0, .slice qb' 0 cb', .int .i64 0, .slice r' m d', .int .i64 0, .slice s' 0 cs', .slice t' 0 ct', .slice none 0 0, .slice none 0 0] 32) := ⟨_, rfl⟩
  have a1 : Below W0.heap.size W0 W1 := by rw [hW1]; exact (Below.refl _ _).alloc (Nat.le_refl _) _
  have C1 : Cells W1 W0.heap.size #[.slice p' n c', .int .i64 0, .int .i64 0, .slice qa' 0 ca', .int .i64 0, .slice qb' 0 cb', .int .i64 0, .slice r' m d', .int .i64 0, .slice s' 0 cs', .slice t' 0 ct', .slice none 0 0, .slice none 0 0] := by rw [hW1]; exact Cells.made _ _ _
  replace hW1 : Hid (W0.alloc (.cells #[.slice p' n c', .int .i64 0, .int .i64 0, .slice qa' 0 ca', .int .i64 0, .slice qb' 0 cb', .int .i64 0, .slice r' m d', .int .i64 0, .slice s' 0 cs', .slice t' 0 ct', .slice none 0 0, .slice none 0 0] 32) = W1) := hW1.symm
  replace C0 := C0.on a1
  have k1' : Below w.heap.size w W1 := below_on k0' a1
  have l0_0 : W1.cell? ⟨w.heap.size, 0, none⟩ = some (.slice p n c) := (C0.2 0).1
  have l0_1 : W1.cell? ⟨w.heap.size, 1, none⟩ = some (.int .i64 0) := (C0.2 1).1
  have l0_2 : W1.cell? ⟨w.heap.size, 2, none⟩ = some (.int .i64 0) := (C0.2 2).1
  have l0_3 : W1.cell? ⟨w.heap.size, 3, none⟩ = some (.slice qa 0 ca) := (C0.2 3).1
  have l0_4 : W1.cell? ⟨w.heap.size, 4, none⟩ = some (.int .i64 0) := (C0.2 4).1
  have l0_5 : W1.cell? ⟨w.heap.size, 5, none⟩ = some (.slice qb 0 cb) := (C0.2 5).1
  have l0_6 : W1.cell? ⟨w.heap.size, 6, none⟩ = some (.int .i64 0) := (C0.2 6).1
  have l0_7 : W1.cell? ⟨w.heap.size, 7, none⟩ = some (.slice r m d) := (C0.2 7).1
  have l0_8 : W1.cell? ⟨w.heap.size, 8, none⟩ = some (.int .i64 0) := (C0.2 8).1
  have l0_9 : W1.cell? ⟨w.heap.size, 9, none⟩ = some (.slice s 0 cs) := (C0.2 9).1
  have l0_10 : W1.cell? ⟨w.heap.size, 10, none⟩ = some (.slice t 0 ct) := (C0.2 10).1
  have l0_11 : W1.cell? ⟨w.heap.size, 11, none⟩ = some (.slice none 0 0) := (C0.2 11).1
  have l0_12 : W1.cell? ⟨w.heap.size, 12, none⟩ = some (.slice none 0 0) := (C0.2 12).1
  have l1_0 : W1.cell? ⟨W0.heap.size, 0, none⟩ = some (.slice p' n c') := (C1.2 0).1
  have l1_1 : W1.cell? ⟨W0.heap.size, 1, none⟩ = some (.int .i64 0) := (C1.2 1).1
  have l1_2 : W1.cell? ⟨W0.heap.size, 2, none⟩ = some (.int .i64 0) := (C1.2 2).1
  have l1_3 : W1.cell? ⟨W0.heap.size, 3, none⟩ = some (.slice qa' 0 ca') := (C1.2 3).1
  have l1_4 : W1.cell? ⟨W0.heap.size, 4, none⟩ = some (.int .i64 0) := (C1.2 4).1
  have l1_5 : W1.cell? ⟨W0.heap.size, 5, none⟩ = some (.slice qb' 0 cb') := (C1.2 5).1
  have l1_6 : W1.cell? ⟨W0.heap.size, 6, none⟩ = some (.int .i64 0) := (C1.2 6).1
  have l1_7 : W1.cell? ⟨W0.heap.size, 7, none⟩ = some (.slice r' m d') := (C1.2 7).1
  have l1_8 : W1.cell? ⟨W0.heap.size, 8, none⟩ = some (.int .i64 0) := (C1.2 8).1
  have l1_9 : W1.cell? ⟨W0.heap.size, 9, none⟩ = some (.slice s' 0 cs') := (C1.2 9).1
  have l1_10 : W1.cell? ⟨W0.heap.size, 10, none⟩ = some (.slice t' 0 ct') := (C1.2 10).1
  have l1_11 : W1.cell? ⟨W0.heap.size, 11, none⟩ = some (.slice none 0 0) := (C1.2 11).1
  have l1_12 : W1.cell? ⟨W0.heap.size, 12, none⟩ = some (.slice none 0 0) := (C1.2 12).1
  go_enter Tryz.func8, Tryz.ntmps8
  go_wp2_with (first | rw [hW0.out] | rw [hW1.out])
  refine (eqBytes_same p p' n c c' xs _ hn hx (in_below h k1') (in_below h' k1')).mono ?_
  rintro e w1 ⟨rfl, b1⟩
  have k1 := below_on k1' b1
  replace C0 := C0.on b1
  replace C1 := C1.on b1
  clear l0_0 l0_1 l0_2 l0_3 l0_4 l0_5 l0_6 l0_7 l0_8 l0_9 l0_10 l0_11 l0_12 l1_0 l1_1 l1_2 l1_3 l1_4 l1_5 l1_6 l1_7 l1_8 l1_9 l1_10 l1_11 l1_12
  have l0_0 : w1.cell? ⟨w.heap.size, 0, none⟩ = some (.slice p n c) := (C0.2 0).1
  have l0_1 : w1.cell? ⟨w.heap.size, 1, none⟩ = some (.int .i64 0) := (C0.2 1).1
  have l0_2 : w1.cell? ⟨w.heap.size, 2, none⟩ = some (.int .i64 0) := (C0.2 2).1
  have l0_3 : w1.cell? ⟨w.heap.size, 3, none⟩ = some (.slice qa 0 ca) := (C0.2 3).1
  have l0_4 : w1.cell? ⟨w.heap.size, 4, none⟩ = some (.int .i64 0) := (C0.2 4).1
  have l0_5 : w1.cell? ⟨w.heap.size, 5, none⟩ = some (.slice qb 0 cb) := (C0.2 5).1
  have l0_6 : w1.cell? ⟨w.heap.size, 6, none⟩ = some (.int .i64 0) := (C0.2 6).1
  have l0_7 : w1.cell? ⟨w.heap.size, 7, none⟩ = some (.slice r m d) := (C0.2 7).1
  have l0_8 : w1.cell? ⟨w.heap.size, 8, none⟩ = some (.int .i64 0) := (C0.2 8).1
  have l0_9 : w1.cell? ⟨w.heap.size, 9, none⟩ = some (.slice s 0 cs) := (C0.2 9).1
  have l0_10 : w1.cell? ⟨w.heap.size, 10, none⟩ = some (.slice t 0 ct) := (C0.2 10).1
  have l0_11 : w1.cell? ⟨w.heap.size, 11, none⟩ = some (.slice none 0 0) := (C0.2 11).1
  have l0_12 : w1.cell? ⟨w.heap.size, 12, none⟩ = some (.slice none 0 0) := (C0.2 12).1
  have l1_0 : w1.cell? ⟨W0.heap.size, 0, none⟩ = some (.slice p' n c') := (C1.2 0).1
  have l1_1 : w1.cell? ⟨W0.heap.size, 1, none⟩ = some (.int .i64 0) := (C1.2 1).1
  have l1_2 : w1.cell? ⟨W0.heap.size, 2, none⟩ = some (.int .i64 0) := (C1.2 2).1
  have l1_3 : w1.cell? ⟨W0.heap.size, 3, none⟩ = some (.slice qa' 0 ca') := (C1.2 3).1
  have l1_4 : w1.cell? ⟨W0.heap.size, 4, none⟩ = some (.int .i64 0) := (C1.2 4).1
  have l1_5 : w1.cell? ⟨W0.heap.size, 5, none⟩ = some (.slice qb' 0 cb') := (C1.2 5).1
  have l1_6 : w1.cell? ⟨W0.heap.size, 6, none⟩ = some (.int .i64 0) := (C1.2 6).1
  have l1_7 : w1.cell? ⟨W0.heap.size, 7, none⟩ = some (.slice r' m d') := (C1.2 7).1
  have l1_8 : w1.cell? ⟨W0.heap.size, 8, none⟩ = some (.int .i64 0) := (C1.2 8).1
  have l1_9 : w1.cell? ⟨W0.heap.size, 9, none⟩ = some (.slice s' 0 cs') := (C1.2 9).1
  have l1_10 : w1.cell? ⟨W0.heap.size, 10, none⟩ = some (.slice t' 0 ct') := (C1.2 10).1
  have l1_11 : w1.cell? ⟨W0.heap.size, 11, none⟩ = some (.slice none 0 0) := (C1.2 11).1
  have l1_12 : w1.cell? ⟨W0.heap.size, 12, none⟩ = some (.slice none 0 0) := (C1.2 12).1
  go_wp2_with (fail)
  refine (eqPost_new _ _ _ _ _ _ _ _ _).mono ?_
  rintro e w2 ⟨rfl, b2⟩
  have k2 := below_on k1 b2
  replace C0 := C0.on b2
  replace C1 := C1.on b2
  clear l0_0 l0_1 l0_2 l0_3 l0_4 l0_5 l0_6 l0_7 l0_8 l0_9 l0_10 l0_11 l0_12 l1_0 l1_1 l1_2 l1_3 l1_4 l1_5 l1_6 l1_7 l1_8 l1_9 l1_10 l1_11 l1_12
  have l0_0 : w2.cell? ⟨w.heap.size, 0, none⟩ = some (.slice p n c) := (C0.2 0).1
  have l0_1 : w2.cell? ⟨w.heap.size, 1, none⟩ = some (.int .i64 0) := (C0.2 1).1
  have l0_2 : w2.cell? ⟨w.heap.size, 2, none⟩ = some (.int .i64 0) := (C0.2 2).1
  have l0_3 : w2.cell? ⟨w.heap.size, 3, none⟩ = some (.slice qa 0 ca) := (C0.2 3).1
  have l0_4 : w2.cell? ⟨w.heap.size, 4, none⟩ = some (.int .i64 0) := (C0.2 4).1
  have l0_5 : w2.cell? ⟨w.heap.size, 5, none⟩ = some (.slice qb 0 cb) := (C0.2 5).1
  have l0_6 : w2.cell? ⟨w.heap.size, 6, none⟩ = some (.int .i64 0) := (C0.2 6).1
  have l0_7 : w2.cell? ⟨w.heap.size, 7, none⟩ = some (.slice r m d) := (C0.2 7).1
  have l0_8 : w2.cell? ⟨w.heap.size, 8, none⟩ = some (.int .i64 0) := (C0.2 8).1
  have l0_9 : w2.cell? ⟨w.heap.size, 9, none⟩ = some (.slice s 0 cs) := (C0.2 9).1
  have l0_10 : w2.cell? ⟨w.heap.size, 10, none⟩ = some (.slice t 0 ct) := (C0.2 10).1
  have l0_11 : w2.cell? ⟨w.heap.size, 11, none⟩ = some (.slice none 0 0) := (C0.2 11).1
  have l0_12 : w2.cell? ⟨w.heap.size, 12, none⟩ = some (.slice none 0 0) := (C0.2 12).1
  have l1_0 : w2.cell? ⟨W0.heap.size, 0, none⟩ = some (.slice p' n c') := (C1.2 0).1
  have l1_1 : w2.cell? ⟨W0.heap.size, 1, none⟩ = some (.int .i64 0) := (C1.2 1).1
  have l1_2 : w2.cell? ⟨W0.heap.size, 2, none⟩ = some (.int .i64 0) := (C1.2 2).1
  have l1_3 : w2.cell? ⟨W0.heap.size, 3, none⟩ = some (.slice qa' 0 ca') := (C1.2 3).1
  have l1_4 : w2.cell? ⟨W0.heap.size, 4, none⟩ = some (.int .i64 0) := (C1.2 4).1
  have l1_5 : w2.cell? ⟨W0.heap.size, 5, none⟩ = some (.slice qb' 0 cb') := (C1.2 5).1
  have l1_6 : w2.cell? ⟨W0.heap.size, 6, none⟩ = some (.int .i64 0) := (C1.2 6).1
  have l1_7 : w2.cell? ⟨W0.heap.size, 7, none⟩ = some (.slice r' m d') := (C1.2 7).1
  have l1_8 : w2.cell? ⟨W0.heap.size, 8, none⟩ = some (.int .i64 0) := (C1.2 8).1
  have l1_9 : w2.cell? ⟨W0.heap.size, 9, none⟩ = some (.slice s' 0 cs') := (C1.2 9).1
  have l1_10 : w2.cell? ⟨W0.heap.size, 10, none⟩ = some (.slice t' 0 ct') := (C1.2 10).1
  have l1_11 : w2.cell? ⟨W0.heap.size, 11, none⟩ = some (.slice none 0 0) := (C1.2 11).1
  have l1_12 : w2.cell? ⟨W0.heap.size, 12, none⟩ = some (.slice none 0 0) := (C1.2 12).1
  go_wp2_with (fail)
  refine (newSame r r' s t s' t' m d d' cs ct cs' ct' ys _ hm hy hb (in_below j k2) (in_below j' k2)).mono ?_
  rintro e w3 ⟨rfl, b3⟩
  have k3 := below_on k2 b3
  replace C0 := C0.on b3
  replace C1 := C1.on b3
  clear l0_0 l0_1 l0_2 l0_3 l0_4 l0_5 l0_6 l0_7 l0_8 l0_9 l0_10 l0_11 l0_12 l1_0 l1_1 l1_2 l1_3 l1_4 l1_5 l1_6 l1_7 l1_8 l1_9 l1_10 l1_11 l1_12
  have l0_0 : w3.cell? ⟨w.heap.size, 0, none⟩ = some (.slice p n c) := (C0.2 0).1
  have l0_1 : w3.cell? ⟨w.heap.size, 1, none⟩ = some (.int .i64 0) := (C0.2 1).1
  have l0_2 : w3.cell? ⟨w.heap.size, 2, none⟩ = some (.int .i64 0) := (C0.2 2).1
  have l0_3 : w3.cell? ⟨w.heap.size, 3, none⟩ = some (.slice qa 0 ca) := (C0.2 3).1
  have l0_4 : w3.cell? ⟨w.heap.size, 4, none⟩ = some (.int .i64 0) := (C0.2 4).1
  have l0_5 : w3.cell? ⟨w.heap.size, 5, none⟩ = some (.slice qb 0 cb) := (C0.2 5).1
  have l0_6 : w3.cell? ⟨w.heap.size, 6, none⟩ = some (.int .i64 0) := (C0.2 6).1
  have l0_7 : w3.cell? ⟨w.heap.size, 7, none⟩ = some (.slice r m d) := (C0.2 7).1
  have l0_8 : w3.cell? ⟨w.heap.size, 8, none⟩ = some (.int .i64 0) := (C0.2 8).1
  have l0_9 : w3.cell? ⟨w.heap.size, 9, none⟩ = some (.slice s 0 cs) := (C0.2 9).1
  have l0_10 : w3.cell? ⟨w.heap.size, 10, none⟩ = some (.slice t 0 ct) := (C0.2 10).1
  have l0_11 : w3.cell? ⟨w.heap.size, 11, none⟩ = some (.slice none 0 0) := (C0.2 11).1
  have l0_12 : w3.cell? ⟨w.heap.size, 12, none⟩ = some (.slice none 0 0) := (C0.2 12).1
  have l1_0 : w3.cell? ⟨W0.heap.size, 0, none⟩ = some (.slice p' n c') := (C1.2 0).1
  have l1_1 : w3.cell? ⟨W0.heap.size, 1, none⟩ = some (.int .i64 0) := (C1.2 1).1
  have l1_2 : w3.cell? ⟨W0.heap.size, 2, none⟩ = some (.int .i64 0) := (C1.2 2).1
  have l1_3 : w3.cell? ⟨W0.heap.size, 3, none⟩ = some (.slice qa' 0 ca') := (C1.2 3).1
  have l1_4 : w3.cell? ⟨W0.heap.size, 4, none⟩ = some (.int .i64 0) := (C1.2 4).1
  have l1_5 : w3.cell? ⟨W0.heap.size, 5, none⟩ = some (.slice qb' 0 cb') := (C1.2 5).1
  have l1_6 : w3.cell? ⟨W0.heap.size, 6, none⟩ = some (.int .i64 0) := (C1.2 6).1
  have l1_7 : w3.cell? ⟨W0.heap.size, 7, none⟩ = some (.slice r' m d') := (C1.2 7).1
  have l1_8 : w3.cell? ⟨W0.heap.size, 8, none⟩ = some (.int .i64 0) := (C1.2 8).1
  have l1_9 : w3.cell? ⟨W0.heap.size, 9, none⟩ = some (.slice s' 0 cs') := (C1.2 9).1
  have l1_10 : w3.cell? ⟨W0.heap.size, 10, none⟩ = some (.slice t' 0 ct') := (C1.2 10).1
  have l1_11 : w3.cell? ⟨W0.heap.size, 11, none⟩ = some (.slice none 0 0) := (C1.2 11).1
  have l1_12 : w3.cell? ⟨W0.heap.size, 12, none⟩ = some (.slice none 0 0) := (C1.2 12).1
  go_wp2_with (fail)
  refine (eqWires_nil _ _ _ _ _).mono ?_
  rintro e wz ⟨rfl, rfl⟩
  go_wp2_with (fail)
  refine (eqSents_nil _ _ _ _ _).mono ?_
  rintro e wz ⟨rfl, rfl⟩
  go_wp2_with (fail)
  go_ret
  exact ⟨rfl, k3⟩
set_option maxHeartbeats 4000000 in
theorem heldWorld_new (p qa qb r s t : Option Addr) (n m c ca cb d cs ct : Nat) (k : Int) (w : World) (hn : n ≤ 1048576) (hm : m ≤ 1048576) (hk : 0 ≤ k) (hk2 : k ≤ 10000) (h : BytesIn w p n (marks k n)) (j : BytesIn w r m (marks (k + n) m)) (hs : n ≤ 32 ∧ m ≤ 32) : Calls Tryz.prog 12 #[.agg #[.slice p n c, .int .i64 0, .int .i64 0, .slice qa 0 ca, .int .i64 0, .slice qb 0 cb, .int .i64 0, .slice r m d, .int .i64 0, .slice s 0 cs, .slice t 0 ct, .slice none 0 0, .slice none 0 0], .int .i64 k] w fun e w' => e = .returned (.int .i64 (k + n + m)) ∧ Below w.heap.size w w' := by
  have g1 : ¬ k < 0 := by omega
  have g2 : ¬ k + (n : Int) < 0 := by omega
  have g3 : ¬ k + (n : Int) + (m : Int) < 0 := by omega
  obtain ⟨W0, hW0⟩ : ∃ X, X = w.alloc (.cells #[.slice p n c, .int .i64 0, .int .i64 0, .slice qa 0 ca, .int .i64 0, .slice qb 0 cb, .int .i64 0, .slice r m d, .int .i64 0, .slice s 0 cs, .slice t 0 ct, .slice none 0 0, .slice none 0 0] 32) := ⟨_, rfl⟩
  have a0 : Below w.heap.size w W0 := by rw [hW0]; exact (Below.refl _ _).alloc (Nat.le_refl _) _
  have C0 : Cells W0 w.heap.size #[.slice p n c, .int .i64 0, .int .i64 0, .slice qa 0 ca, .int .i64 0, .slice qb 0 cb, .int .i64 0, .slice r m d, .int .i64 0, .slice s 0 cs, .slice t 0 ct, .slice none 0 0, .slice none 0 0] := by rw [hW0]; exact Cells.made _ _ _
  replace hW0 : Hid (w.alloc (.cells #[.slice p n c, .int .i64 0, .int .i64 0, .slice qa 0 ca, .int .i64 0, .slice qb 0 cb, .int .i64 0, .slice r m d, .int .i64 0, .slice s 0 cs, .slice t 0 ct, .slice none 0 0, .slice none 0 0] 32) = W0) := hW0.symm
  have k0' : Below w.heap.size w W0 := a0
  have l0_0 : W0.cell? ⟨w.heap.size, 0, none⟩ = some (.slice p n c) := (C0.2 0).1
  have l0_1 : W0.cell? ⟨w.heap.size, 1, none⟩ = some (.int .i64 0) := (C0.2 1).1
  have l0_2 : W0.cell? ⟨w.heap.size, 2, none⟩ = some (.int .i64 0) := (C0.2 2).1
  have l0_3 : W0.cell? ⟨w.heap.size, 3, none⟩ = some (.slice qa 0 ca) := (C0.2 3).1
  have l0_4 : W0.cell? ⟨w.heap.size, 4, none⟩ = some (.int .i64 0) := (C0.2 4).1
  have l0_5 : W0.cell? ⟨w.heap.size, 5, none⟩ = some (.slice qb 0 cb) := (C0.2 5).1
  have l0_6 : W0.cell? ⟨w.heap.size, 6, none⟩ = some (.int .i64 0) := (C0.2 6).1
  have l0_7 : W0.cell? ⟨w.heap.size, 7, none⟩ = some (.slice r m d) := (C0.2 7).1
  have l0_8 : W0.cell? ⟨w.heap.size, 8, none⟩ = some (.int .i64 0) := (C0.2 8).1
  have l0_9 : W0.cell? ⟨w.heap.size, 9, none⟩ = some (.slice s 0 cs) := (C0.2 9).1
  have l0_10 : W0.cell? ⟨w.heap.size, 10, none⟩ = some (.slice t 0 ct) := (C0.2 10).1
  have l0_11 : W0.cell? ⟨w.heap.size, 11, none⟩ = some (.slice none 0 0) := (C0.2 11).1
  have l0_12 : W0.cell? ⟨w.heap.size, 12, none⟩ = some (.slice none 0 0) := (C0.2 12).1
  go_enter Tryz.func12, Tryz.ntmps12
  go_wp2_with (rw [hW0.out])
  refine (heldByteS_any p n c k _ (by omega) (by omega) (by omega) (in_below h k0')).mono ?_
  rintro e w1 ⟨rfl, b1⟩
  have k1 := below_on k0' b1
  replace C0 := C0.on b1
  clear l0_0 l0_1 l0_2 l0_3 l0_4 l0_5 l0_6 l0_7 l0_8 l0_9 l0_10 l0_11 l0_12
  have l0_0 : w1.cell? ⟨w.heap.size, 0, none⟩ = some (.slice p n c) := (C0.2 0).1
  have l0_1 : w1.cell? ⟨w.heap.size, 1, none⟩ = some (.int .i64 0) := (C0.2 1).1
  have l0_2 : w1.cell? ⟨w.heap.size, 2, none⟩ = some (.int .i64 0) := (C0.2 2).1
  have l0_3 : w1.cell? ⟨w.heap.size, 3, none⟩ = some (.slice qa 0 ca) := (C0.2 3).1
  have l0_4 : w1.cell? ⟨w.heap.size, 4, none⟩ = some (.int .i64 0) := (C0.2 4).1
  have l0_5 : w1.cell? ⟨w.heap.size, 5, none⟩ = some (.slice qb 0 cb) := (C0.2 5).1
  have l0_6 : w1.cell? ⟨w.heap.size, 6, none⟩ = some (.int .i64 0) := (C0.2 6).1
  have l0_7 : w1.cell? ⟨w.heap.size, 7, none⟩ = some (.slice r m d) := (C0.2 7).1
  have l0_8 : w1.cell? ⟨w.heap.size, 8, none⟩ = some (.int .i64 0) := (C0.2 8).1
  have l0_9 : w1.cell? ⟨w.heap.size, 9, none⟩ = some (.slice s 0 cs) := (C0.2 9).1
  have l0_10 : w1.cell? ⟨w.heap.size, 10, none⟩ = some (.slice t 0 ct) := (C0.2 10).1
  have l0_11 : w1.cell? ⟨w.heap.size, 11, none⟩ = some (.slice none 0 0) := (C0.2 11).1
  have l0_12 : w1.cell? ⟨w.heap.size, 12, none⟩ = some (.slice none 0 0) := (C0.2 12).1
  go_wp2_with (fail)
  refine (heldPost_new _ _ _ _ (k + (n : Int)) _ (by omega)).mono ?_
  rintro e w2 ⟨rfl, b2⟩
  have k2 := below_on k1 b2
  replace C0 := C0.on b2
  clear l0_0 l0_1 l0_2 l0_3 l0_4 l0_5 l0_6 l0_7 l0_8 l0_9 l0_10 l0_11 l0_12
  have l0_0 : w2.cell? ⟨w.heap.size, 0, none⟩ = some (.slice p n c) := (C0.2 0).1
  have l0_1 : w2.cell? ⟨w.heap.size, 1, none⟩ = some (.int .i64 0) := (C0.2 1).1
  have l0_2 : w2.cell? ⟨w.heap.size, 2, none⟩ = some (.int .i64 0) := (C0.2 2).1
  have l0_3 : w2.cell? ⟨w.heap.size, 3, none⟩ = some (.slice qa 0 ca) := (C0.2 3).1
  have l0_4 : w2.cell? ⟨w.heap.size, 4, none⟩ = some (.int .i64 0) := (C0.2 4).1
  have l0_5 : w2.cell? ⟨w.heap.size, 5, none⟩ = some (.slice qb 0 cb) := (C0.2 5).1
  have l0_6 : w2.cell? ⟨w.heap.size, 6, none⟩ = some (.int .i64 0) := (C0.2 6).1
  have l0_7 : w2.cell? ⟨w.heap.size, 7, none⟩ = some (.slice r m d) := (C0.2 7).1
  have l0_8 : w2.cell? ⟨w.heap.size, 8, none⟩ = some (.int .i64 0) := (C0.2 8).1
  have l0_9 : w2.cell? ⟨w.heap.size, 9, none⟩ = some (.slice s 0 cs) := (C0.2 9).1
  have l0_10 : w2.cell? ⟨w.heap.size, 10, none⟩ = some (.slice t 0 ct) := (C0.2 10).1
  have l0_11 : w2.cell? ⟨w.heap.size, 11, none⟩ = some (.slice none 0 0) := (C0.2 11).1
  have l0_12 : w2.cell? ⟨w.heap.size, 12, none⟩ = some (.slice none 0 0) := (C0.2 12).1
  go_wp2_with (fail)
  refine (heldReader_new r s t m d cs ct 0 (k + (n : Int)) _ hm (by omega) (by omega) (in_below j k2)).mono ?_
  rintro e w3 ⟨rfl, b3⟩
  have k3 := below_on k2 b3
  replace C0 := C0.on b3
  clear l0_0 l0_1 l0_2 l0_3 l0_4 l0_5 l0_6 l0_7 l0_8 l0_9 l0_10 l0_11 l0_12
  have l0_0 : w3.cell? ⟨w.heap.size, 0, none⟩ = some (.slice p n c) := (C0.2 0).1
  have l0_1 : w3.cell? ⟨w.heap.size, 1, none⟩ = some (.int .i64 0) := (C0.2 1).1
  have l0_2 : w3.cell? ⟨w.heap.size, 2, none⟩ = some (.int .i64 0) := (C0.2 2).1
  have l0_3 : w3.cell? ⟨w.heap.size, 3, none⟩ = some (.slice qa 0 ca) := (C0.2 3).1
  have l0_4 : w3.cell? ⟨w.heap.size, 4, none⟩ = some (.int .i64 0) := (C0.2 4).1
  have l0_5 : w3.cell? ⟨w.heap.size, 5, none⟩ = some (.slice qb 0 cb) := (C0.2 5).1
  have l0_6 : w3.cell? ⟨w.heap.size, 6, none⟩ = some (.int .i64 0) := (C0.2 6).1
  have l0_7 : w3.cell? ⟨w.heap.size, 7, none⟩ = some (.slice r m d) := (C0.2 7).1
  have l0_8 : w3.cell? ⟨w.heap.size, 8, none⟩ = some (.int .i64 0) := (C0.2 8).1
  have l0_9 : w3.cell? ⟨w.heap.size, 9, none⟩ = some (.slice s 0 cs) := (C0.2 9).1
  have l0_10 : w3.cell? ⟨w.heap.size, 10, none⟩ = some (.slice t 0 ct) := (C0.2 10).1
  have l0_11 : w3.cell? ⟨w.heap.size, 11, none⟩ = some (.slice none 0 0) := (C0.2 11).1
  have l0_12 : w3.cell? ⟨w.heap.size, 12, none⟩ = some (.slice none 0 0) := (C0.2 12).1
  go_wp2_with (fail)
  refine (heldWires_nil _ _ (k + (n : Int) + (m : Int)) _).mono ?_
  rintro e wz ⟨rfl, rfl⟩
  go_wp2_with (fail)
  refine (heldSents_nil _ _ (k + (n : Int) + (m : Int)) _).mono ?_
  rintro e wz ⟨rfl, rfl⟩
  go_wp2_with (fail)
  go_ret
  exact ⟨rfl, k3⟩
set_option maxHeartbeats 4000000 in
theorem markWorld_own (lo hi lo' hi' : Nat) (p qa qb r s t : Option Addr) (n m c ca cb d cs ct : Nat) (xs ys : List Int) (k : Int) (w : World) (hn : n ≤ 1048576) (hm : m ≤ 1048576) (hk : 0 ≤ k) (hk2 : k ≤ 10000) (hs : n ≤ 32 ∧ m ≤ 32) (hd : hi ≤ lo' ∨ hi' ≤ lo) (h0 : hi ≤ w.heap.size) (h0' : hi' ≤ w.heap.size) (h : Own 5 w lo hi (.slice p n c) n xs) (h' : Own 5 w lo' hi' (.slice r m d) m ys) : Calls Tryz.prog 11 #[.agg #[.slice p n c, .int .i64 0, .int .i64 0, .slice qa 0 ca, .int .i64 0, .slice qb 0 cb, .int .i64 0, .slice r m d, .int .i64 0, .slice s 0 cs, .slice t 0 ct, .slice none 0 0, .slice none 0 0], .int .i64 k] w fun e w' => e = .returned (.int .i64 (k + n + m)) ∧ ∃ wa w1 wb, Below w.heap.size w wa ∧ wa.grownBy w1 (Value.ownBlock (.slice p n c)) ∧ Below w1.heap.size w1 wb ∧ wb.grownBy w' (Value.ownBlock (.slice r m d)) ∧ Own 5 w' lo hi (.slice p n c) n (marks k n) ∧ Own 5 w' lo' hi' (.slice r m d) m (marks (k + n) m) := by
  obtain ⟨W0, hW0⟩ : ∃ X, X = w.alloc (.cells #[.slice p n c, .int .i64 0, .int .i64 0, .slice qa 0 ca, .int .i64 0, .slice qb 0 cb, .int .i64 0, .slice r m d, .int .i64 0, .slice s 0 cs, .slice t 0 ct, .slice none 0 0, .slice none 0 0] 32) := ⟨_, rfl⟩
  have a0 : Below w.heap.size w W0 := by rw [hW0]; exact (Below.refl _ _).alloc (Nat.le_refl _) _
  have C0 : Cells W0 w.heap.size #[.slice p n c, .int .i64 0, .int .i64 0, .slice qa 0 ca, .int .i64 0, .slice qb 0 cb, .int .i64 0, .slice r m d, .int .i64 0, .slice s 0 cs, .slice t 0 ct, .slice none 0 0, .slice none 0 0] := by rw [hW0]; exact Cells.made _ _ _
  have C0' := C0.1
  replace hW0 : Hid (w.alloc (.cells #[.slice p n c, .int .i64 0, .int .i64 0, .slice qa 0 ca, .int .i64 0, .slice qb 0 cb, .int .i64 0, .slice r m d, .int .i64 0, .slice s 0 cs, .slice t 0 ct, .slice none 0 0, .slice none 0 0] 32) = W0) := hW0.symm
  have k0' : Below w.heap.size w W0 := a0
  have l0_0 : W0.cell? ⟨w.heap.size, 0, none⟩ = some (.slice p n c) := (C0.2 0).1
  have l0_1 : W0.cell? ⟨w.heap.size, 1, none⟩ = some (.int .i64 0) := (C0.2 1).1
  have l0_2 : W0.cell? ⟨w.heap.size, 2, none⟩ = some (.int .i64 0) := (C0.2 2).1
  have l0_3 : W0.cell? ⟨w.heap.size, 3, none⟩ = some (.slice qa 0 ca) := (C0.2 3).1
  have l0_4 : W0.cell? ⟨w.heap.size, 4, none⟩ = some (.int .i64 0) := (C0.2 4).1
  have l0_5 : W0.cell? ⟨w.heap.size, 5, none⟩ = some (.slice qb 0 cb) := (C0.2 5).1
  have l0_6 : W0.cell? ⟨w.heap.size, 6, none⟩ = some (.int .i64 0) := (C0.2 6).1
  have l0_7 : W0.cell? ⟨w.heap.size, 7, none⟩ = some (.slice r m d) := (C0.2 7).1
  have l0_8 : W0.cell? ⟨w.heap.size, 8, none⟩ = some (.int .i64 0) := (C0.2 8).1
  have l0_9 : W0.cell? ⟨w.heap.size, 9, none⟩ = some (.slice s 0 cs) := (C0.2 9).1
  have l0_10 : W0.cell? ⟨w.heap.size, 10, none⟩ = some (.slice t 0 ct) := (C0.2 10).1
  have l0_11 : W0.cell? ⟨w.heap.size, 11, none⟩ = some (.slice none 0 0) := (C0.2 11).1
  have l0_12 : W0.cell? ⟨w.heap.size, 12, none⟩ = some (.slice none 0 0) := (C0.2 12).1
  go_enter Tryz.func11, Tryz.ntmps11
  go_wp2_with (rw [hW0.out])
  refine (markByteS_own lo hi p n c xs k _ (by omega) hk (by omega) (h.on a0)).mono ?_
  rintro e w1 ⟨rfl, r1, g1⟩
  replace C0 := C0.grown g1 (fun x => by have := h.2 _ x.symm; omega)
  have s1 := g1.size
  have h1 := (h'.on a0).far g1 (h.on a0) hd.symm
  clear l0_0 l0_1 l0_2 l0_3 l0_4 l0_5 l0_6 l0_7 l0_8 l0_9 l0_10 l0_11 l0_12
  have l0_0 : w1.cell? ⟨w.heap.size, 0, none⟩ = some (.slice p n c) := (C0.2 0).1
  have l0_1 : w1.cell? ⟨w.heap.size, 1, none⟩ = some (.int .i64 0) := (C0.2 1).1
  have l0_2 : w1.cell? ⟨w.heap.size, 2, none⟩ = some (.int .i64 0) := (C0.2 2).1
  have l0_3 : w1.cell? ⟨w.heap.size, 3, none⟩ = some (.slice qa 0 ca) := (C0.2 3).1
  have l0_4 : w1.cell? ⟨w.heap.size, 4, none⟩ = some (.int .i64 0) := (C0.2 4).1
  have l0_5 : w1.cell? ⟨w.heap.size, 5, none⟩ = some (.slice qb 0 cb) := (C0.2 5).1
  have l0_6 : w1.cell? ⟨w.heap.size, 6, none⟩ = some (.int .i64 0) := (C0.2 6).1
  have l0_7 : w1.cell? ⟨w.heap.size, 7, none⟩ = some (.slice r m d) := (C0.2 7).1
  have l0_8 : w1.cell? ⟨w.heap.size, 8, none⟩ = some (.int .i64 0) := (C0.2 8).1
  have l0_9 : w1.cell? ⟨w.heap.size, 9, none⟩ = some (.slice s 0 cs) := (C0.2 9).1
  have l0_10 : w1.cell? ⟨w.heap.size, 10, none⟩ = some (.slice t 0 ct) := (C0.2 10).1
  have l0_11 : w1.cell? ⟨w.heap.size, 11, none⟩ = some (.slice none 0 0) := (C0.2 11).1
  have l0_12 : w1.cell? ⟨w.heap.size, 12, none⟩ = some (.slice none 0 0) := (C0.2 12).1
  go_wp2_with (fail)
  refine (markPost_new _ _ _ _ (k + (n : Int)) _).mono ?_
  rintro e w2 ⟨rfl, b2⟩
  replace C0 := C0.on b2
  replace r1 := r1.on b2
  replace h1 := h1.on b2
  clear l0_0 l0_1 l0_2 l0_3 l0_4 l0_5 l0_6 l0_7 l0_8 l0_9 l0_10 l0_11 l0_12
  have l0_0 : w2.cell? ⟨w.heap.size, 0, none⟩ = some (.slice p n c) := (C0.2 0).1
  have l0_1 : w2.cell? ⟨w.heap.size, 1, none⟩ = some (.int .i64 0) := (C0.2 1).1
  have l0_2 : w2.cell? ⟨w.heap.size, 2, none⟩ = some (.int .i64 0) := (C0.2 2).1
  have l0_3 : w2.cell? ⟨w.heap.size, 3, none⟩ = some (.slice qa 0 ca) := (C0.2 3).1
  have l0_4 : w2.cell? ⟨w.heap.size, 4, none⟩ = some (.int .i64 0) := (C0.2 4).1
  have l0_5 : w2.cell? ⟨w.heap.size, 5, none⟩ = some (.slice qb 0 cb) := (C0.2 5).1
  have l0_6 : w2.cell? ⟨w.heap.size, 6, none⟩ = some (.int .i64 0) := (C0.2 6).1
  have l0_7 : w2.cell? ⟨w.heap.size, 7, none⟩ = some (.slice r m d) := (C0.2 7).1
  have l0_8 : w2.cell? ⟨w.heap.size, 8, none⟩ = some (.int .i64 0) := (C0.2 8).1
  have l0_9 : w2.cell? ⟨w.heap.size, 9, none⟩ = some (.slice s 0 cs) := (C0.2 9).1
  have l0_10 : w2.cell? ⟨w.heap.size, 10, none⟩ = some (.slice t 0 ct) := (C0.2 10).1
  have l0_11 : w2.cell? ⟨w.heap.size, 11, none⟩ = some (.slice none 0 0) := (C0.2 11).1
  have l0_12 : w2.cell? ⟨w.heap.size, 12, none⟩ = some (.slice none 0 0) := (C0.2 12).1
  go_wp2_with (fail)
  refine (markReader_own lo' hi' r s t m d cs ct 0 ys (k + (n : Int)) _ hm (by omega) (by omega) (by have := b2.size; have := a0.size; omega) h1).mono ?_
  rintro e w3 ⟨rfl, wb, b3, g3, r3⟩
  have z := h'.2
  have s2 := b2.size
  have sz : w.heap.size < W0.heap.size := C0'
  replace C0 := (C0.on b3).grown g3 (fun x => by have := z _ x.symm; omega)
  have r2 := (r1.on b3).far g3 (h1.on b3) hd
  clear l0_0 l0_1 l0_2 l0_3 l0_4 l0_5 l0_6 l0_7 l0_8 l0_9 l0_10 l0_11 l0_12
  have l0_0 : w3.cell? ⟨w.heap.size, 0, none⟩ = some (.slice p n c) := (C0.2 0).1
  have l0_1 : w3.cell? ⟨w.heap.size, 1, none⟩ = some (.int .i64 0) := (C0.2 1).1
  have l0_2 : w3.cell? ⟨w.heap.size, 2, none⟩ = some (.int .i64 0) := (C0.2 2).1
  have l0_3 : w3.cell? ⟨w.heap.size, 3, none⟩ = some (.slice qa 0 ca) := (C0.2 3).1
  have l0_4 : w3.cell? ⟨w.heap.size, 4, none⟩ = some (.int .i64 0) := (C0.2 4).1
  have l0_5 : w3.cell? ⟨w.heap.size, 5, none⟩ = some (.slice qb 0 cb) := (C0.2 5).1
  have l0_6 : w3.cell? ⟨w.heap.size, 6, none⟩ = some (.int .i64 0) := (C0.2 6).1
  have l0_7 : w3.cell? ⟨w.heap.size, 7, none⟩ = some (.slice r m d) := (C0.2 7).1
  have l0_8 : w3.cell? ⟨w.heap.size, 8, none⟩ = some (.int .i64 0) := (C0.2 8).1
  have l0_9 : w3.cell? ⟨w.heap.size, 9, none⟩ = some (.slice s 0 cs) := (C0.2 9).1
  have l0_10 : w3.cell? ⟨w.heap.size, 10, none⟩ = some (.slice t 0 ct) := (C0.2 10).1
  have l0_11 : w3.cell? ⟨w.heap.size, 11, none⟩ = some (.slice none 0 0) := (C0.2 11).1
  have l0_12 : w3.cell? ⟨w.heap.size, 12, none⟩ = some (.slice none 0 0) := (C0.2 12).1
  go_wp2_with (fail)
  refine (markWires_nil _ _ (k + (n : Int) + (m : Int)) _).mono ?_
  rintro e wz ⟨rfl, rfl⟩
  go_wp2_with (fail)
  refine (markSents_nil _ _ (k + (n : Int) + (m : Int)) _).mono ?_
  rintro e wz ⟨rfl, rfl⟩
  go_wp2_with (fail)
  go_ret
  exact ⟨rfl, W0, w1, wb, a0, g1, below_on b2 b3, g3, r2, r3⟩
end Go.Proofs.YthfnechcddmjkaaGreatDoor
