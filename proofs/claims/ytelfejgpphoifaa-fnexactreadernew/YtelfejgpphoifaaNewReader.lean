/-
  A new reader, of the specification and of the program: its seed and two empty lists. Conditions: bytes that lie there.
-/
import Derived.Test.YtelfejgpphoifaaImplReaderOk
import Derived.Test.YtelfejgpphoifaaConcat
import Derived.Deep.RegionHeld3
namespace Go.Proofs.Ytelfejgpphoifaa
open Go.RowKit
set_option maxRecDepth 100000

theorem rB_new (p : Option Addr) (n c : Nat) (xs : List Int) (pa pb : Option Addr) (ca cb : Nat) : rB ⟨⟨p, n, c, xs⟩, 0, pa, 0, ca, [], pb, 0, cb, []⟩ = decide (n = 32) := by
  by_cases h : n = 32
  · rw [decide_eq_true h]; exact rB_true ⟨h, ⟨Int.le_refl _, by show (0 : Int) ≤ 40; omega⟩, Nat.zero_le _, rfl, fun i hi => absurd hi (Nat.not_lt_zero _)⟩
  · rw [decide_eq_false h]; exact rB_false fun k => h k.1
theorem newOk {w : World} {p : Option Addr} {n c : Nat} {xs : List Int} (hn : n ≤ 9223372036854775807) (hx : xs.length = n) (h : BytesIn w p n xs) (hb : ∀ x ∈ xs, 0 ≤ x ∧ x < 256) (pa pb : Option Addr) (ca cb : Nat) : RdA.Ok w ⟨⟨p, n, c, xs⟩, 0, pa, 0, ca, [], pb, 0, cb, []⟩ :=
  ⟨⟨hn, hx, h, hb⟩, ⟨by show (-9223372036854775808 : Int) ≤ 0; omega, by show (0 : Int) ≤ 9223372036854775807; omega⟩, Rows.nil _ _, Rows.nil _ _⟩
theorem buildR (w : World) (p : Option Addr) (n c : Nat) : (Instr.build 28 #[(0, .slice p n c)]).run Try.prog w = .ok (.agg #[.slice p n c, .int .i64 0, .slice none 0 0, .slice none 0 0]) w := by kernel_rfl
theorem buildZ (w : World) : (Instr.build 28 #[]).run Try.prog w = .ok (.agg #[.slice none 0 0, .int .i64 0, .slice none 0 0, .slice none 0 0]) w := by kernel_rfl
theorem buildA (w : World) (p q r : Option Addr) (n c m d k f : Nat) (e : Int) : (Instr.build 28 #[(0, .slice p n c), (1, .int .i64 e), (2, .slice q m d), (3, .slice r k f)]).run Try.prog w = .ok (.agg #[.slice p n c, .int .i64 e, .slice q m d, .slice r k f]) w := by kernel_rfl
theorem own_none (w : World) (lo : Nat) : Own 5 w lo w.heap.size (.slice none 0 0) 0 [] := ⟨⟨rfl, .inl ⟨rfl, rfl⟩⟩, fun k hk => by cases hk⟩

theorem below_to {w a b : World} (h : Below w.heap.size w a) (k : Below w.heap.size a b) : Below w.heap.size w b := h.trans k

set_option maxHeartbeats 8000000 in
theorem specReaderNew_any (p : Option Addr) (n c : Nat) (xs : List Int) (w : World) (hn : n ≤ 1048576) (hx : xs.length = n) (h : BytesIn w p n xs) (hb : ∀ x ∈ xs, 0 ≤ x ∧ x < 256) :
    Calls Try.prog 11 #[.slice p n c] w fun z w' => ∃ p c pa ca pb cb, z = .returned (.tuple #[.agg #[.slice p (if n = 32 then 32 else 0) c, .int .i64 0, .slice pa 0 ca, .slice pb 0 cb], .bool (decide (n = 32))]) ∧ Own 5 w' w.heap.size w'.heap.size (.slice p (if n = 32 then 32 else 0) c) (if n = 32 then 32 else 0) (if n = 32 then xs else []) ∧ Below w.heap.size w w' := by
  obtain ⟨i0, hi, hz0, hz1, hz2⟩ := info_parts infoByte
  have bR := buildR
  have bZ := buildZ
  have bA : ∀ a b, Below w.heap.size w ((w.alloc a).alloc b) := fun a b => made_below _ _ (made_below _ _ (Below.refl _ _))
  have h1 := fun a b => in_below h (bA a b)
  have hown0 : ((w.alloc (.cells #[.slice none 0 0, .int .i64 0, .slice none 0 0, .slice none 0 0] 28)).alloc (.cells #[] 5)).ownsRow (w.heap.size + 1) 5 1 (.slice (some ⟨w.heap.size + 1, 0, none⟩) 0 0) 0 (([] : List Int).map (Value.int .u8)) := by
    have e : (w.alloc (.cells #[.slice none 0 0, .int .i64 0, .slice none 0 0, .slice none 0 0] 28)).heap.size = w.heap.size + 1 := by simp
    have k := heap_made (w.alloc (.cells #[.slice none 0 0, .int .i64 0, .slice none 0 0, .slice none 0 0] 28)) (.cells #[] 5)
    rw [e] at k
    exact ⟨rfl, .inr ⟨w.heap.size + 1, 0, #[], rfl, Nat.le_refl _, k, Nat.le_refl _, Nat.zero_le _, rfl, rfl⟩⟩
  obtain ⟨WZ, hWZ⟩ : ∃ WZ, w.alloc (.cells #[.slice none 0 0, .int .i64 0, .slice none 0 0, .slice none 0 0] 28) = WZ := ⟨_, rfl⟩
  have CZ : Cells WZ w.heap.size #[.slice none 0 0, .int .i64 0, .slice none 0 0, .slice none 0 0] := by rw [← hWZ]; exact Cells.made _ _ _
  have sZ : WZ.heap.size = w.heap.size + 1 := by rw [← hWZ]; simp
  have kZ : Below w.heap.size w WZ := by rw [← hWZ]; exact made_below _ _ (Below.refl _ _)
  have h1 := in_below h (kZ.trans ((Below.refl _ _).alloc (by omega) (.cells #[] 5)))
  rw [hWZ] at hown0
  replace hWZ : Hid (w.alloc (.cells #[.slice none 0 0, .int .i64 0, .slice none 0 0, .slice none 0 0] 28) = WZ) := hWZ
  clear bA h
  go_enter Try.func11, Try.ntmps11
  go_wp2_with (first | rw [hWZ.out] | (at_builtin; refine list_spreadA hi hz0 hz1 hz2 (.tmp 5) (.tmp 6) 22 Try.underlying22 hown0 h1 hx (by omega) (by omega) (by simp; omega) (by rfl) (by rfl) (by rfl) (by rfl) ?_; intro p1 cap1 w1 ho1 hb1; simp only [Nat.zero_add, List.nil_append] at ho1 ⊢))
  have own1 : Own 5 w1 (w.heap.size + 1) w1.heap.size (.slice p1 n cap1) n xs := .of ho1
  have hb1' : Below WZ.heap.size (WZ.alloc (.cells #[] 5)) w1 := by rw [sZ]; exact hb1
  have hb2 : Below WZ.heap.size WZ w1 := ((Below.refl _ WZ).alloc (Nat.le_refl _) _).trans hb1'
  have k1 : Below w.heap.size w w1 := below_on kZ hb2
  have Z1 := CZ.on hb2
  have s1 := hb2.size
  have ok1 := newOk (by omega) hx own1.bytes hb none none 0 0 (c := cap1)
  clear hWZ hown0 h1 kZ CZ hb1 hb1' hb2 ho1
  refine (specReaderOk_any ⟨⟨p1, n, cap1, xs⟩, 0, none, 0, 0, [], none, 0, 0, []⟩ _ (ok1.on (made_below _ _ (Below.refl _ _)))).mono ?_
  rintro z w3 ⟨rfl, b3⟩
  have C3 := (Cells.made w1 _ _).on b3
  have b4 := made_below _ _ b3
  have Z3 := Z1.on b4
  have own3 := own1.on b4
  have k3 := below_on k1 b4
  have s3 := b4.size
  rw [rB_new]
  clear b3 b4 Z1 own1 k1 ok1
  by_cases e : n = 32
  · rw [decide_eq_true e]
    subst e
    have c0 : w3.cell? ⟨w1.heap.size, 0, none⟩ = some (.slice p1 32 cap1) := (C3.2 0).1
    have c1 : w3.cell? ⟨w1.heap.size, 1, none⟩ = some (.int .i64 0) := (C3.2 1).1
    have c2 : w3.cell? ⟨w1.heap.size, 2, none⟩ = some (.slice none 0 0) := (C3.2 2).1
    have c3 : w3.cell? ⟨w1.heap.size, 3, none⟩ = some (.slice none 0 0) := (C3.2 3).1
    have m0 : w3.cell? ⟨w.heap.size, 0, none⟩ = some (.slice none 0 0) := (Z3.2 0).1
    have f0 := (Z3.2 0).2
    have D0 := Z3.set 0 (by simp) (.slice p1 32 cap1)
    have m1 : (w3.setCell ⟨w.heap.size, 0, none⟩ (.slice p1 32 cap1)).cell? ⟨w.heap.size, 1, none⟩ = some (.int .i64 0) := (D0.2 1).1
    have f1 := (D0.2 1).2
    have D1 := D0.set 1 (by simp) (.int .i64 0)
    have m2 : ((w3.setCell ⟨w.heap.size, 0, none⟩ (.slice p1 32 cap1)).setCell ⟨w.heap.size, 1, none⟩ (.int .i64 0)).cell? ⟨w.heap.size, 2, none⟩ = some (.slice none 0 0) := (D1.2 2).1
    have f2 := (D1.2 2).2
    have D2 := D1.set 2 (by simp) (.slice none 0 0)
    have m3 : (((w3.setCell ⟨w.heap.size, 0, none⟩ (.slice p1 32 cap1)).setCell ⟨w.heap.size, 1, none⟩ (.int .i64 0)).setCell ⟨w.heap.size, 2, none⟩ (.slice none 0 0)).cell? ⟨w.heap.size, 3, none⟩ = some (.slice none 0 0) := (D2.2 3).1
    have f3 := (D2.2 3).2
    have D3 := D2.set 3 (by simp) (.slice none 0 0)
    obtain ⟨X3, hX3⟩ : ∃ X3, X3 = ((((w3.setCell ⟨w.heap.size, 0, none⟩ (.slice p1 32 cap1)).setCell ⟨w.heap.size, 1, none⟩ (.int .i64 0)).setCell ⟨w.heap.size, 2, none⟩ (.slice none 0 0)).setCell ⟨w.heap.size, 3, none⟩ (.slice none 0 0)) := ⟨_, rfl⟩
    have bX : Below w.heap.size w3 X3 := by rw [hX3]; exact ((((Below.refl _ _).setCell (show w.heap.size ≤ w.heap.size by omega) _).setCell (show w.heap.size ≤ w.heap.size by omega) _).setCell (show w.heap.size ≤ w.heap.size by omega) _).setCell (show w.heap.size ≤ w.heap.size by omega) _
    have r9 := (Own.set_below (Own.set_below (Own.set_below (Own.set_below own3 (a := ⟨w.heap.size, 0, none⟩) (show w.heap.size < w.heap.size + 1 by omega) (.slice p1 32 cap1)) (a := ⟨w.heap.size, 1, none⟩) (show w.heap.size < w.heap.size + 1 by omega) (.int .i64 0)) (a := ⟨w.heap.size, 2, none⟩) (show w.heap.size < w.heap.size + 1 by omega) (.slice none 0 0)) (a := ⟨w.heap.size, 3, none⟩) (show w.heap.size < w.heap.size + 1 by omega) (.slice none 0 0))
    rw [← hX3] at r9
    rw [← hX3] at D3
    have y0 : X3.cell? ⟨w.heap.size, 0, none⟩ = some (.slice p1 32 cap1) := (D3.2 0).1
    have y1 : X3.cell? ⟨w.heap.size, 1, none⟩ = some (.int .i64 0) := (D3.2 1).1
    have y2 : X3.cell? ⟨w.heap.size, 2, none⟩ = some (.slice none 0 0) := (D3.2 2).1
    have y3 : X3.cell? ⟨w.heap.size, 3, none⟩ = some (.slice none 0 0) := (D3.2 3).1
    replace hX3 : Hid (((((w3.setCell ⟨w.heap.size, 0, none⟩ (.slice p1 32 cap1)).setCell ⟨w.heap.size, 1, none⟩ (.int .i64 0)).setCell ⟨w.heap.size, 2, none⟩ (.slice none 0 0)).setCell ⟨w.heap.size, 3, none⟩ (.slice none 0 0)) = X3) := hX3.symm
    clear D0 D1 D2 D3 Z3 
    go_wp2_with (first | rw [hX3.out])
    refine bodyPost_ret (v := .tuple #[.agg #[.slice p1 32 cap1, .int .i64 0, .slice none 0 0, .slice none 0 0], .bool true]) ?_ rfl ⟨p1, cap1, ⟨none, 0, none, 0, rfl⟩, ⟨owns_mono r9.1 (by omega), fun k hk => Nat.lt_of_lt_of_le (r9.2 k hk) (by have := bX.size; omega)⟩, below_to k3 bX⟩
    simp only [results, Try.f11]
    go_simp
  · rw [decide_eq_false e]
    have m0 : w3.cell? ⟨w.heap.size, 0, none⟩ = some (.slice none 0 0) := (Z3.2 0).1
    have f0 := (Z3.2 0).2
    have D0 := Z3.set 0 (by simp) (.slice none 0 0)
    have m1 : (w3.setCell ⟨w.heap.size, 0, none⟩ (.slice none 0 0)).cell? ⟨w.heap.size, 1, none⟩ = some (.int .i64 0) := (D0.2 1).1
    have f1 := (D0.2 1).2
    have D1 := D0.set 1 (by simp) (.int .i64 0)
    have m2 : ((w3.setCell ⟨w.heap.size, 0, none⟩ (.slice none 0 0)).setCell ⟨w.heap.size, 1, none⟩ (.int .i64 0)).cell? ⟨w.heap.size, 2, none⟩ = some (.slice none 0 0) := (D1.2 2).1
    have f2 := (D1.2 2).2
    have D2 := D1.set 2 (by simp) (.slice none 0 0)
    have m3 : (((w3.setCell ⟨w.heap.size, 0, none⟩ (.slice none 0 0)).setCell ⟨w.heap.size, 1, none⟩ (.int .i64 0)).setCell ⟨w.heap.size, 2, none⟩ (.slice none 0 0)).cell? ⟨w.heap.size, 3, none⟩ = some (.slice none 0 0) := (D2.2 3).1
    have f3 := (D2.2 3).2
    have D3 := D2.set 3 (by simp) (.slice none 0 0)
    obtain ⟨X3, hX3⟩ : ∃ X3, X3 = ((((w3.setCell ⟨w.heap.size, 0, none⟩ (.slice none 0 0)).setCell ⟨w.heap.size, 1, none⟩ (.int .i64 0)).setCell ⟨w.heap.size, 2, none⟩ (.slice none 0 0)).setCell ⟨w.heap.size, 3, none⟩ (.slice none 0 0)) := ⟨_, rfl⟩
    have bX : Below w.heap.size w3 X3 := by rw [hX3]; exact ((((Below.refl _ _).setCell (show w.heap.size ≤ w.heap.size by omega) _).setCell (show w.heap.size ≤ w.heap.size by omega) _).setCell (show w.heap.size ≤ w.heap.size by omega) _).setCell (show w.heap.size ≤ w.heap.size by omega) _
    rw [← hX3] at D3
    have y0 : X3.cell? ⟨w.heap.size, 0, none⟩ = some (.slice none 0 0) := (D3.2 0).1
    have y1 : X3.cell? ⟨w.heap.size, 1, none⟩ = some (.int .i64 0) := (D3.2 1).1
    have y2 : X3.cell? ⟨w.heap.size, 2, none⟩ = some (.slice none 0 0) := (D3.2 2).1
    have y3 : X3.cell? ⟨w.heap.size, 3, none⟩ = some (.slice none 0 0) := (D3.2 3).1
    replace hX3 : Hid (((((w3.setCell ⟨w.heap.size, 0, none⟩ (.slice none 0 0)).setCell ⟨w.heap.size, 1, none⟩ (.int .i64 0)).setCell ⟨w.heap.size, 2, none⟩ (.slice none 0 0)).setCell ⟨w.heap.size, 3, none⟩ (.slice none 0 0)) = X3) := hX3.symm
    clear D0 D1 D2 D3 Z3 
    go_wp2_with (first | rw [hX3.out])
    refine bodyPost_ret (v := .tuple #[.agg #[.slice none 0 0, .int .i64 0, .slice none 0 0, .slice none 0 0], .bool false]) ?_ rfl ⟨none, 0, ⟨none, 0, none, 0, rfl⟩, own_none _ _, below_to k3 bX⟩
    simp only [results, Try.f11]
    go_simp

set_option maxHeartbeats 4000000 in
theorem copiedLists_nil (p : Option Addr) (c : Nat) (w : World) :
    Calls Try.prog 37 #[.slice p 0 c] w fun z w' => ∃ p' c', z = .returned (.slice p' 0 c') ∧ Below w.heap.size w w' := by
  obtain ⟨i0, hi, hz0, hz1, hz2⟩ := info_parts infoRow
  have hmk : ∀ W, (Instr.makeSlice 23 (.int .i64 0) (.int .i64 0)).run Try.prog W = .ok (.slice (some ⟨W.heap.size, 0, none⟩) 0 0) (W.alloc (.cells #[] 22)) := fun W => by
    have := run_makeSlice (P := Try.prog) W 23 22 i0 (.slice none 0 0) Try.underlying23 hi hz0 .i64 .i64 0 0 (by omega) (by omega) (by rw [hz1]; simp) (by rw [hz2]; omega) (by omega)
    simpa [hz1, Value.cells, show madeCells #[Value.slice none 0 0] 0 = #[] from Array.toList_inj.1 (by rw [made_rows]; rfl)] using this
  have ba : ∀ o, Below w.heap.size w (w.alloc o) := fun o => made_below _ _ (Below.refl _ _)
  go_enter Try.func37, Try.ntmps37
  go_wp2_with (fail)
  go_loopw [11] (fun i wr => i = .int .i64 0 ∧ Below w.heap.size w wr) (fun _ _ => 0)
  case atStart => exact ⟨rfl, ba _⟩
  case round =>
    obtain ⟨rfl, hbel⟩ := hrel
    go_wp2_with (fail)
    go_ret
    exact ⟨_, _, rfl, hbel⟩

set_option maxHeartbeats 8000000 in
theorem copiedReader_new (p : Option Addr) (n c : Nat) (xs : List Int) (w : World) (hn : n ≤ 1048576) (hx : xs.length = n) (h : BytesIn w p n xs) :
    Calls Try.prog 29 #[.agg #[.slice p n c, .int .i64 0, .slice none 0 0, .slice none 0 0]] w fun z w' => ∃ p' c' qa ca qb cb, z = .returned (.agg #[.slice p' n c', .int .i64 0, .slice qa 0 ca, .slice qb 0 cb]) ∧ Own 5 w' w.heap.size w'.heap.size (.slice p' n c') n xs ∧ Below w.heap.size w w' := by
  have bA := buildA
  have T0 := fun X (b : Below w.heap.size w X) => copied_any p n c xs X hn hx (in_below h b)
  clear h
  go_enter Try.func29, Try.ntmps29
  go_wp2_with (fail)
  obtain ⟨W1, hW1⟩ : ∃ W1, (w.alloc (.cells #[.slice p n c, .int .i64 0, .slice none 0 0, .slice none 0 0] 28)).alloc (.cells #[.slice none 0 0, .int .i64 0, .slice none 0 0, .slice none 0 0] 28) = W1 := ⟨_, rfl⟩
  have CR : Cells W1 w.heap.size #[.slice p n c, .int .i64 0, .slice none 0 0, .slice none 0 0] := by rw [← hW1]; exact (Cells.made w _ _).on (made_below _ _ (Below.refl _ _))
  have CZ : Cells W1 (w.heap.size + 1) #[.slice none 0 0, .int .i64 0, .slice none 0 0, .slice none 0 0] := by
    have k := Cells.made (w.alloc (.cells #[.slice p n c, .int .i64 0, .slice none 0 0, .slice none 0 0] 28)) #[.slice none 0 0, .int .i64 0, .slice none 0 0, .slice none 0 0] 28
    rw [show (w.alloc (.cells #[.slice p n c, .int .i64 0, .slice none 0 0, .slice none 0 0] 28)).heap.size = w.heap.size + 1 by simp, hW1] at k
    exact k
  have k1 : Below w.heap.size w W1 := by rw [← hW1]; exact made_below _ _ (made_below _ _ (Below.refl _ _))
  have s1 : W1.heap.size = w.heap.size + 1 + 1 := by rw [← hW1]; simp
  rw [hW1]
  clear hW1
  have kd : Below w.heap.size w W1.drew := k1.drew
  have CZd : Cells W1.drew (w.heap.size + 1) #[.slice none 0 0, .int .i64 0, .slice none 0 0, .slice none 0 0] := CZ.on (Below.refl _ _).drew
  have CRd : Cells W1.drew w.heap.size #[.slice p n c, .int .i64 0, .slice none 0 0, .slice none 0 0] := CR.on (Below.refl _ _).drew
  have HK : ∀ X, Cells X w.heap.size #[.slice p n c, .int .i64 0, .slice none 0 0, .slice none 0 0] → X.cell? ⟨w.heap.size, 0, none⟩ = some (.slice p n c) ∧ X.cell? ⟨w.heap.size, 1, none⟩ = some (.int .i64 0) ∧ X.cell? ⟨w.heap.size, 2, none⟩ = some (.slice none 0 0) ∧ X.cell? ⟨w.heap.size, 3, none⟩ = some (.slice none 0 0) := fun X hX => ⟨(hX.2 0).1, (hX.2 1).1, (hX.2 2).1, (hX.2 3).1⟩
  have ne : w.heap.size ≠ w.heap.size + 1 := by omega
  have mark : True := trivial
  have LC := fun (X : World) => copiedLists_nil none 0 X
  go_region_held3 (fun X => X.cell? ⟨w.heap.size, 0, none⟩ = some (.slice p n c) ∧ X.cell? ⟨w.heap.size, 1, none⟩ = some (.int .i64 0) ∧ X.cell? ⟨w.heap.size, 2, none⟩ = some (.slice none 0 0) ∧ X.cell? ⟨w.heap.size, 3, none⟩ = some (.slice none 0 0)) (exact HK _ (by repeat (with_reducible (first | exact CRd | refine Cells.other ?_ _ ne | refine Cells.on ?_ b2 | refine Cells.on ?_ b3 | refine Cells.on ?_ b4)))) (first | (go_at_call 36; refine (T0 _ kd).mono ?_; rintro z w2 ⟨p2, c2, rfl, r2, b2⟩) | (clear mark; go_at_call 37; refine (LC _).mono ?_; rintro z w3 ⟨p3, c3, rfl, b3⟩) | (go_at_call 37; refine (LC _).mono ?_; rintro z w4 ⟨p4, c4, rfl, b4⟩; have Z4 : Cells w4 (w.heap.size + 1) #[.slice none 0 0, .int .i64 0, .slice none 0 0, .slice none 0 0] := ((CZd.on b2).on b3).on b4; have m0 : w4.cell? ⟨w.heap.size + 1, 0, none⟩ = some (.slice none 0 0) := (Z4.2 0).1; have f0 := (Z4.2 0).2; have D0 := Z4.set 0 (by simp) (.slice p2 n c2); have m1 : (w4.setCell ⟨w.heap.size + 1, 0, none⟩ (.slice p2 n c2)).cell? ⟨w.heap.size + 1, 1, none⟩ = some (.int .i64 0) := (D0.2 1).1; have f1 := (D0.2 1).2; have D1 := D0.set 1 (by simp) (.int .i64 0); have m2 : ((w4.setCell ⟨w.heap.size + 1, 0, none⟩ (.slice p2 n c2)).setCell ⟨w.heap.size + 1, 1, none⟩ (.int .i64 0)).cell? ⟨w.heap.size + 1, 2, none⟩ = some (.slice none 0 0) := (D1.2 2).1; have f2 := (D1.2 2).2; have D2 := D1.set 2 (by simp) (.slice p3 0 c3); have m3 : (((w4.setCell ⟨w.heap.size + 1, 0, none⟩ (.slice p2 n c2)).setCell ⟨w.heap.size + 1, 1, none⟩ (.int .i64 0)).setCell ⟨w.heap.size + 1, 2, none⟩ (.slice p3 0 c3)).cell? ⟨w.heap.size + 1, 3, none⟩ = some (.slice none 0 0) := (D2.2 3).1; have f3 := (D2.2 3).2; have D3 := D2.set 3 (by simp) (.slice p4 0 c4)))
  have lt : w.heap.size + 1 < W1.drew.heap.size := by show w.heap.size + 1 < W1.heap.size; omega
  have r4 := (r2.on b3).on b4
  obtain ⟨X3, hX3⟩ : ∃ X3, X3 = ((((w4.setCell ⟨w.heap.size + 1, 0, none⟩ (.slice p2 n c2)).setCell ⟨w.heap.size + 1, 1, none⟩ (.int .i64 0)).setCell ⟨w.heap.size + 1, 2, none⟩ (.slice p3 0 c3)).setCell ⟨w.heap.size + 1, 3, none⟩ (.slice p4 0 c4)) := ⟨_, rfl⟩
  have r9 := (Own.set_below (Own.set_below (Own.set_below (Own.set_below r4 (a := ⟨w.heap.size + 1, 0, none⟩) lt (.slice p2 n c2)) (a := ⟨w.heap.size + 1, 1, none⟩) lt (.int .i64 0)) (a := ⟨w.heap.size + 1, 2, none⟩) lt (.slice p3 0 c3)) (a := ⟨w.heap.size + 1, 3, none⟩) lt (.slice p4 0 c4))
  rw [← hX3] at r9
  have k4 := below_on (below_on (below_on kd b2) b3) b4
  have bX : Below w.heap.size w X3 := by rw [hX3]; exact (((k4.setCell (show w.heap.size ≤ w.heap.size + 1 by omega) _).setCell (show w.heap.size ≤ w.heap.size + 1 by omega) _).setCell (show w.heap.size ≤ w.heap.size + 1 by omega) _).setCell (show w.heap.size ≤ w.heap.size + 1 by omega) _
  have sX : w2.heap.size ≤ X3.heap.size := by rw [hX3]; simp; have := b3.size; have := b4.size; omega
  rw [← hX3] at D3
  have y0 : X3.cell? ⟨w.heap.size + 1, 0, none⟩ = some (.slice p2 n c2) := (D3.2 0).1
  have y1 : X3.cell? ⟨w.heap.size + 1, 1, none⟩ = some (.int .i64 0) := (D3.2 1).1
  have y2 : X3.cell? ⟨w.heap.size + 1, 2, none⟩ = some (.slice p3 0 c3) := (D3.2 2).1
  have y3 : X3.cell? ⟨w.heap.size + 1, 3, none⟩ = some (.slice p4 0 c4) := (D3.2 3).1
  replace hX3 : Hid (((((w4.setCell ⟨w.heap.size + 1, 0, none⟩ (.slice p2 n c2)).setCell ⟨w.heap.size + 1, 1, none⟩ (.int .i64 0)).setCell ⟨w.heap.size + 1, 2, none⟩ (.slice p3 0 c3)).setCell ⟨w.heap.size + 1, 3, none⟩ (.slice p4 0 c4)) = X3) := hX3.symm
  clear D0 D1 D2 D3 Z4 r2 r4 k4 b2 b3 b4 CZd CRd HK CR CZ k1 kd T0 LC
  rw [hX3.out]
  go_wp2_with (fail)
  refine bodyPost_ret (v := .agg #[.slice p2 n c2, .int .i64 0, .slice p3 0 c3, .slice p4 0 c4]) ?_ rfl ⟨p2, c2, p3, c3, p4, c4, rfl, ⟨owns_mono r9.1 (by omega), fun k hk => Nat.lt_of_lt_of_le (r9.2 k hk) sX⟩, bX⟩
  simp only [results, Try.f29]
  go_simp

set_option maxHeartbeats 8000000 in
theorem implReaderNew_any (p : Option Addr) (n c : Nat) (xs : List Int) (w : World) (hn : n ≤ 1048576) (hx : xs.length = n) (h : BytesIn w p n xs) (hb : ∀ x ∈ xs, 0 ≤ x ∧ x < 256) :
    Calls Try.prog 13 #[.slice p n c] w fun z w' => ∃ p c pa ca pb cb, z = .returned (.tuple #[.agg #[.slice p (if n = 32 then 32 else 0) c, .int .i64 0, .slice pa 0 ca, .slice pb 0 cb], .bool (decide (n = 32))]) ∧ Own 5 w' w.heap.size w'.heap.size (.slice p (if n = 32 then 32 else 0) c) (if n = 32 then 32 else 0) (if n = 32 then xs else []) ∧ Below w.heap.size w w' := by
  have bR := buildR
  have bZ := buildZ
  obtain ⟨WZ, hWZ⟩ : ∃ WZ, w.alloc (.cells #[.slice none 0 0, .int .i64 0, .slice none 0 0, .slice none 0 0] 28) = WZ := ⟨_, rfl⟩
  have CZ : Cells WZ w.heap.size #[.slice none 0 0, .int .i64 0, .slice none 0 0, .slice none 0 0] := by rw [← hWZ]; exact Cells.made _ _ _
  have sZ : WZ.heap.size = w.heap.size + 1 := by rw [← hWZ]; simp
  have kZ : Below w.heap.size w WZ := by rw [← hWZ]; exact made_below _ _ (Below.refl _ _)
  have CI := fun X (b : Below w.heap.size w X) => implReaderOk_any ⟨⟨p, n, c, xs⟩, 0, none, 0, 0, [], none, 0, 0, []⟩ X (newOk (by omega) hx (in_below h b) hb none none 0 0) (Nat.le_refl _)
  have CC := fun X (b : Below w.heap.size w X) => copiedReader_new p n c xs X hn hx (in_below h b)
  replace hWZ : Hid (w.alloc (.cells #[.slice none 0 0, .int .i64 0, .slice none 0 0, .slice none 0 0] 28) = WZ) := hWZ
  clear h
  go_enter Try.func13, Try.ntmps13
  go_wp2_with (rw [hWZ.out])
  refine (CI _ (below_on kZ (made_below _ _ (Below.refl _ _)))).mono ?_
  rintro z w3 ⟨rfl, b3⟩
  have C3 := (Cells.made WZ _ _).on b3
  have b4 := made_below _ _ b3
  have Z3 := CZ.on b4
  have k3 := below_on kZ b4
  have s3 := b4.size
  rw [rB_new]
  rw [sZ] at C3
  clear hWZ b3 b4 CZ CI kZ
  by_cases e : n = 32
  · rw [decide_eq_true e]
    subst e
    have c0 : w3.cell? ⟨w.heap.size + 1, 0, none⟩ = some (.slice p 32 c) := (C3.2 0).1
    have c1 : w3.cell? ⟨w.heap.size + 1, 1, none⟩ = some (.int .i64 0) := (C3.2 1).1
    have c2 : w3.cell? ⟨w.heap.size + 1, 2, none⟩ = some (.slice none 0 0) := (C3.2 2).1
    have c3 : w3.cell? ⟨w.heap.size + 1, 3, none⟩ = some (.slice none 0 0) := (C3.2 3).1
    go_wp2_with (fail)
    refine (CC _ k3).mono ?_
    rintro z w4 ⟨p1, cap1, qa, ca, qb, cb, rfl, own4, b4⟩
    have Z4 := Z3.on b4
    have k4 := below_on k3 b4
    have s4 := b4.size
    clear b4 Z3 CC c0 c1 c2 c3 k3
    have m0 : w4.cell? ⟨w.heap.size, 0, none⟩ = some (.slice none 0 0) := (Z4.2 0).1
    have f0 := (Z4.2 0).2
    have D0 := Z4.set 0 (by simp) (.slice p1 32 cap1)
    have m1 : (w4.setCell ⟨w.heap.size, 0, none⟩ (.slice p1 32 cap1)).cell? ⟨w.heap.size, 1, none⟩ = some (.int .i64 0) := (D0.2 1).1
    have f1 := (D0.2 1).2
    have D1 := D0.set 1 (by simp) (.int .i64 0)
    have m2 : ((w4.setCell ⟨w.heap.size, 0, none⟩ (.slice p1 32 cap1)).setCell ⟨w.heap.size, 1, none⟩ (.int .i64 0)).cell? ⟨w.heap.size, 2, none⟩ = some (.slice none 0 0) := (D1.2 2).1
    have f2 := (D1.2 2).2
    have D2 := D1.set 2 (by simp) (.slice qa 0 ca)
    have m3 : (((w4.setCell ⟨w.heap.size, 0, none⟩ (.slice p1 32 cap1)).setCell ⟨w.heap.size, 1, none⟩ (.int .i64 0)).setCell ⟨w.heap.size, 2, none⟩ (.slice qa 0 ca)).cell? ⟨w.heap.size, 3, none⟩ = some (.slice none 0 0) := (D2.2 3).1
    have f3 := (D2.2 3).2
    have D3 := D2.set 3 (by simp) (.slice qb 0 cb)
    obtain ⟨X3, hX3⟩ : ∃ X3, X3 = ((((w4.setCell ⟨w.heap.size, 0, none⟩ (.slice p1 32 cap1)).setCell ⟨w.heap.size, 1, none⟩ (.int .i64 0)).setCell ⟨w.heap.size, 2, none⟩ (.slice qa 0 ca)).setCell ⟨w.heap.size, 3, none⟩ (.slice qb 0 cb)) := ⟨_, rfl⟩
    have bX : Below w.heap.size w4 X3 := by rw [hX3]; exact ((((Below.refl _ _).setCell (show w.heap.size ≤ w.heap.size by omega) _).setCell (show w.heap.size ≤ w.heap.size by omega) _).setCell (show w.heap.size ≤ w.heap.size by omega) _).setCell (show w.heap.size ≤ w.heap.size by omega) _
    have r9 := (Own.set_below (Own.set_below (Own.set_below (Own.set_below own4 (a := ⟨w.heap.size, 0, none⟩) (show w.heap.size < w3.heap.size by omega) (.slice p1 32 cap1)) (a := ⟨w.heap.size, 1, none⟩) (show w.heap.size < w3.heap.size by omega) (.int .i64 0)) (a := ⟨w.heap.size, 2, none⟩) (show w.heap.size < w3.heap.size by omega) (.slice qa 0 ca)) (a := ⟨w.heap.size, 3, none⟩) (show w.heap.size < w3.heap.size by omega) (.slice qb 0 cb))
    rw [← hX3] at r9
    rw [← hX3] at D3
    have y0 : X3.cell? ⟨w.heap.size, 0, none⟩ = some (.slice p1 32 cap1) := (D3.2 0).1
    have y1 : X3.cell? ⟨w.heap.size, 1, none⟩ = some (.int .i64 0) := (D3.2 1).1
    have y2 : X3.cell? ⟨w.heap.size, 2, none⟩ = some (.slice qa 0 ca) := (D3.2 2).1
    have y3 : X3.cell? ⟨w.heap.size, 3, none⟩ = some (.slice qb 0 cb) := (D3.2 3).1
    replace hX3 : Hid (((((w4.setCell ⟨w.heap.size, 0, none⟩ (.slice p1 32 cap1)).setCell ⟨w.heap.size, 1, none⟩ (.int .i64 0)).setCell ⟨w.heap.size, 2, none⟩ (.slice qa 0 ca)).setCell ⟨w.heap.size, 3, none⟩ (.slice qb 0 cb)) = X3) := hX3.symm
    clear D0 D1 D2 D3 Z4 
    go_wp2_with (first | rw [hX3.out])
    refine bodyPost_ret (v := .tuple #[.agg #[.slice p1 32 cap1, .int .i64 0, .slice qa 0 ca, .slice qb 0 cb], .bool true]) ?_ rfl ⟨p1, cap1, ⟨qa, ca, qb, cb, rfl⟩, ⟨owns_mono r9.1 (by omega), fun k hk => Nat.lt_of_lt_of_le (r9.2 k hk) (by have := bX.size; omega)⟩, below_to k4 bX⟩
    simp only [results, Try.f13]
    go_simp
  · rw [decide_eq_false e]
    clear CC
    have m0 : w3.cell? ⟨w.heap.size, 0, none⟩ = some (.slice none 0 0) := (Z3.2 0).1
    have f0 := (Z3.2 0).2
    have D0 := Z3.set 0 (by simp) (.slice none 0 0)
    have m1 : (w3.setCell ⟨w.heap.size, 0, none⟩ (.slice none 0 0)).cell? ⟨w.heap.size, 1, none⟩ = some (.int .i64 0) := (D0.2 1).1
    have f1 := (D0.2 1).2
    have D1 := D0.set 1 (by simp) (.int .i64 0)
    have m2 : ((w3.setCell ⟨w.heap.size, 0, none⟩ (.slice none 0 0)).setCell ⟨w.heap.size, 1, none⟩ (.int .i64 0)).cell? ⟨w.heap.size, 2, none⟩ = some (.slice none 0 0) := (D1.2 2).1
    have f2 := (D1.2 2).2
    have D2 := D1.set 2 (by simp) (.slice none 0 0)
    have m3 : (((w3.setCell ⟨w.heap.size, 0, none⟩ (.slice none 0 0)).setCell ⟨w.heap.size, 1, none⟩ (.int .i64 0)).setCell ⟨w.heap.size, 2, none⟩ (.slice none 0 0)).cell? ⟨w.heap.size, 3, none⟩ = some (.slice none 0 0) := (D2.2 3).1
    have f3 := (D2.2 3).2
    have D3 := D2.set 3 (by simp) (.slice none 0 0)
    obtain ⟨X3, hX3⟩ : ∃ X3, X3 = ((((w3.setCell ⟨w.heap.size, 0, none⟩ (.slice none 0 0)).setCell ⟨w.heap.size, 1, none⟩ (.int .i64 0)).setCell ⟨w.heap.size, 2, none⟩ (.slice none 0 0)).setCell ⟨w.heap.size, 3, none⟩ (.slice none 0 0)) := ⟨_, rfl⟩
    have bX : Below w.heap.size w3 X3 := by rw [hX3]; exact ((((Below.refl _ _).setCell (show w.heap.size ≤ w.heap.size by omega) _).setCell (show w.heap.size ≤ w.heap.size by omega) _).setCell (show w.heap.size ≤ w.heap.size by omega) _).setCell (show w.heap.size ≤ w.heap.size by omega) _
    rw [← hX3] at D3
    have y0 : X3.cell? ⟨w.heap.size, 0, none⟩ = some (.slice none 0 0) := (D3.2 0).1
    have y1 : X3.cell? ⟨w.heap.size, 1, none⟩ = some (.int .i64 0) := (D3.2 1).1
    have y2 : X3.cell? ⟨w.heap.size, 2, none⟩ = some (.slice none 0 0) := (D3.2 2).1
    have y3 : X3.cell? ⟨w.heap.size, 3, none⟩ = some (.slice none 0 0) := (D3.2 3).1
    replace hX3 : Hid (((((w3.setCell ⟨w.heap.size, 0, none⟩ (.slice none 0 0)).setCell ⟨w.heap.size, 1, none⟩ (.int .i64 0)).setCell ⟨w.heap.size, 2, none⟩ (.slice none 0 0)).setCell ⟨w.heap.size, 3, none⟩ (.slice none 0 0)) = X3) := hX3.symm
    clear D0 D1 D2 D3 Z3 
    go_wp2_with (first | rw [hX3.out])
    refine bodyPost_ret (v := .tuple #[.agg #[.slice none 0 0, .int .i64 0, .slice none 0 0, .slice none 0 0], .bool false]) ?_ rfl ⟨none, 0, ⟨none, 0, none, 0, rfl⟩, own_none _ _, below_to k3 bX⟩
    simp only [results, Try.f13]
    go_simp

end Go.Proofs.Ytelfejgpphoifaa
