/-
  What the laws' draws of chapter 13 make of any code. Condition: the code is of bytes, at most 2^20.
  Queues that the laws draw: right ones. Condition: the code is of bytes, at most 2^20.
  Facts of lists of items that FnQueues asks for: what is due, what is taken, what is alone with its route and topic. No conditions beyond each fact's own.
  What the laws' draws of chapter 13 hand over. Condition: the code is of bytes, at most 2^20.
  How many items there are of a route, as the program counts them. Conditions: items that lie there, as many as a law hands over.
  What the laws' helper big answers of a code's length, and a list's beginning; no condition.
-/
import Derived.Test.YtkdbcplcpcdnbaaPart09
import Derived.Test.YtkdbcplcpcdnbaaPart07
import Derived.Test.YtkdbcplcpcdnbaaPart08
import Derived.Test.YtkdbcplcpcdnbaaPart04
import Derived.Test.YtkdbcplcpcdnbaaPart05
import Derived.Test.YtkdbcplcpcdnbaaPart03
import Derived.Test.YtkdbcplcpcdnbaaPart01
namespace Go.Proofs.Ytkdbcplcpcdnbaa
open Go.RowKit
set_option maxRecDepth 100000

theorem l13DrawRoute_any (a : Nat) (p : Option Addr) (n c : Nat) (xs : List Int) (w : World) (hcur : Cur w a p n c xs) :
    Calls Try.prog 49 #[.pointer (some ⟨a, 0, none⟩)] w fun e w' => ∃ s : ByteArray, e = .returned (.string s) ∧ s.size ≤ 16 ∧ Cur w' a p n c xs ∧ w.grownBy w' (some a) := by
  have ha := hcur.lt
  have hb0 : ∀ o, Below w.heap.size w (w.alloc o) := fun o => made_below _ _ (Below.refl _ _)
  go_enter Try.func49, Try.ntmps49
  go_wp2_with (fail)
  refine (l1Pick_any a p n c xs w.heap.size 3 [⟨#[48, 48, 48, 48, 48, 48, 48, 48, 48, 48, 48, 48, 48, 48, 48, 48]⟩, ⟨#[48, 48, 48, 48, 48, 48, 48, 48, 48, 48, 48, 48, 48, 48, 102, 102]⟩, ⟨#[97, 98, 99, 100, 101, 102, 48, 49, 50, 51, 52, 53, 54, 55, 56, 57]⟩] _ (by omega) (by omega) rfl (lit_strs w [⟨#[48, 48, 48, 48, 48, 48, 48, 48, 48, 48, 48, 48, 48, 48, 48, 48]⟩, ⟨#[48, 48, 48, 48, 48, 48, 48, 48, 48, 48, 48, 48, 48, 48, 102, 102]⟩, ⟨#[97, 98, 99, 100, 101, 102, 48, 49, 50, 51, 52, 53, 54, 55, 56, 57]⟩] 9) (by omega) (hcur.below (hb0 _) ha hcur.code_lt)).mono ?_
  rintro e w1 ⟨s, hs, rfl, hc1, g1⟩
  have hsz : s.size ≤ 16 := by
    simp only [List.mem_cons, List.not_mem_nil, or_false] at hs
    rcases hs with rfl | rfl | rfl <;> decide
  have g2 := (below_grown (hb0 _) (some a)).trans g1
  clear g1 hs
  go_wp2_with (fail)
  go_ret
  exact ⟨s, rfl, hsz, hc1, g2⟩


set_option maxHeartbeats 8000000 in
theorem l13DrawItem_any (a : Nat) (p : Option Addr) (n c : Nat) (xs : List Int) (w : World) (hcur : Cur w a p n c xs) :
    Calls Try.prog 40 #[.pointer (some ⟨a, 0, none⟩)] w fun e w' => ∃ x : ItA, e = .returned (.agg #[.string x.s, .int .i64 x.t, .int .i64 x.d, .slice x.p x.n x.c]) ∧ x.s.size ≤ 16 ∧ x.n ≤ 6 ∧ Own 5 w' w.heap.size w'.heap.size x.slice x.n x.xs ∧ Cur w' a p n c xs ∧ w.grownBy w' (some a) := by
  have ha := hcur.lt
  have hcl := hcur.code_lt
  obtain ⟨w0, hw0⟩ : ∃ w0, w0 = w.alloc (.cells #[.string { data := #[] }, .int .i64 0, .int .i64 0, .slice none 0 0] 26) := ⟨_, rfl⟩
  have b0 : Below w.heap.size w w0 := by rw [hw0]; exact made_below _ _ (Below.refl _ _)
  have CR : Cells w0 w.heap.size #[.string { data := #[] }, .int .i64 0, .int .i64 0, .slice none 0 0] := by rw [hw0]; exact Cells.made _ _ _
  replace hw0 : Hid (w.alloc (.cells #[.string { data := #[] }, .int .i64 0, .int .i64 0, .slice none 0 0] 26) = w0) := hw0.symm
  have hc0 := hcur.below b0 ha hcl
  go_enter Try.func40, Try.ntmps40
  go_wp2_with (rw [hw0.out])
  obtain ⟨R, hR⟩ : ∃ R, R = w.heap.size := ⟨_, rfl⟩
  rw [← hR] at CR ⊢
  have hRw : w.heap.size ≤ R ∧ R < w0.heap.size := ⟨by omega, CR.1⟩
  have hRa : R ≠ a := by omega
  clear hw0 hR
  refine (l13DrawRoute_any a p n c xs _ hc0).mono ?_
  rintro e w1 ⟨s, rfl, hs, hc1, g1⟩
  have G1 := (below_grown b0 (some a)).trans g1
  replace CR := CR.grown g1 (fun e => hRa (by cases e; rfl))
  clear hc0 b0 g1
  go_wp2_with (fail)
  refine (l1Below_any a p n c xs 3 _ (by omega) (by omega) hc1).mono ?_
  rintro e w2 ⟨tp, rfl, ht0, ht1, hc2, g2⟩
  have G2 := G1.trans g2
  replace CR := CR.grown g2 (fun e => hRa (by cases e; rfl))
  clear hc1 g2 G1
  have hb2 : Below w2.heap.size w2 (w2.alloc (.cells #[.int .i64 0, .int .i64 5, .int .i64 20, .int .i64 100] 3)) := (Below.refl _ _).alloc (Nat.le_refl _) _
  go_wp2_with (fail)
  refine (l1PickInt_any a p n c xs w2.heap.size 4 [0, 5, 20, 100] _ (by omega) (by omega) rfl (lit_ints w2 [0, 5, 20, 100] 3) (by have := hc2.lt; omega) (hc2.below hb2 hc2.lt hc2.code_lt)).mono ?_
  rintro e w3 ⟨dd, hd, rfl, hc3, g3⟩
  have G3 := (G2.trans (below_grown hb2 (some a))).trans g3
  replace CR := (CR.on hb2).grown g3 (fun e => hRa (by cases e; rfl))
  have hR3 : R < w3.heap.size := CR.1
  clear hc2 g3 G2 hb2 hd
  go_wp2_with (fail)
  refine (l1DrawBytes_any a p n c xs 6 _ (by omega) (by omega) hc3).mono ?_
  rintro e w4 ⟨gb, k, cb, ys, rfl, hk, ob, _, hc4, g4⟩
  have G4 := G3.trans g4
  replace CR := CR.grown g4 (fun e => hRa (by cases e; rfl))
  have z3 := G3.size
  have hob := (ob.1.lt gb rfl).1
  clear hc3 g4 G3
  obtain ⟨w5, hw5⟩ : ∃ w5, w5 = w4.alloc (.cells #[.string s, .int .i64 tp, .int .i64 dd, .slice (some ⟨gb, 0, none⟩) k cb] 26) := ⟨_, rfl⟩
  have b5 : Below w4.heap.size w4 w5 := by rw [hw5]; exact made_below _ _ (Below.refl _ _)
  have CX : Cells w5 w4.heap.size #[.string s, .int .i64 tp, .int .i64 dd, .slice (some ⟨gb, 0, none⟩) k cb] := by rw [hw5]; exact Cells.made _ _ _
  replace hw5 : Hid (w4.alloc (.cells #[.string s, .int .i64 tp, .int .i64 dd, .slice (some ⟨gb, 0, none⟩) k cb] 26) = w5) := hw5.symm
  have z4 := G4.size
  have hgb4 : gb < w4.heap.size := (ob.1.lt gb rfl).2
  have hR4 : R < w4.heap.size := CR.1
  have ha4 : a < w4.heap.size := by omega
  have hc5 := hc4.below b5 hc4.lt hc4.code_lt
  have G5 := G4.trans (below_grown b5 (some a))
  replace CR := CR.on b5
  replace ob := ob.on b5
  clear hc4 G4 b5
  go_wp2_with (rw [hw5.out])
  obtain ⟨XB, hXB⟩ : ∃ XB, XB = w4.heap.size := ⟨_, rfl⟩
  rw [← hXB] at CX ⊢
  have hXw : w.heap.size ≤ XB ∧ XB ≠ R ∧ XB ≠ a ∧ XB ≠ gb := by omega
  clear hw5 hXB
  refine (l1Below_any a p n c xs 16 _ (by omega) (by omega) hc5).mono ?_
  rintro e w6 ⟨sw, rfl, hsw0, hsw1, hc6, g6⟩
  have G6 := G5.trans g6
  replace CR := CR.grown g6 (fun e => hRa (by cases e; rfl))
  replace CX := CX.grown g6 (fun e => hXw.2.2.1 (by cases e; rfl))
  have hgba : gb ≠ a := by omega
  have hgR : gb ≠ R := by omega
  have hgX : gb ≠ XB := fun e => hXw.2.2.2 e.symm
  have ob6 : Own 5 w6 w.heap.size w6.heap.size (.slice (some ⟨gb, 0, none⟩) k cb) k ys := Own.of (owns_mono (ob.1.kept g6 (.inr (fun e => hgba (by simpa [Value.ownBlock] using e)))) (by omega))
  clear hc5 G5 g6 ob
  by_cases e0 : sw = 0
  · subst e0
    have hb6 : Below w6.heap.size w6 (w6.alloc (.cells #[.string ⟨#[]⟩, .string ⟨#[48, 48]⟩, .string ⟨#[48, 48, 48, 48, 48, 48, 48, 48, 48, 48, 48, 48, 48, 48, 48, 103]⟩] 9)) := (Below.refl _ _).alloc (Nat.le_refl _) _
    go_wp2_with (fail)
    refine (l1Pick_any a p n c xs w6.heap.size 3 [⟨#[]⟩, ⟨#[48, 48]⟩, ⟨#[48, 48, 48, 48, 48, 48, 48, 48, 48, 48, 48, 48, 48, 48, 48, 103]⟩] _ (by omega) (by omega) rfl (lit_strs w6 [⟨#[]⟩, ⟨#[48, 48]⟩, ⟨#[48, 48, 48, 48, 48, 48, 48, 48, 48, 48, 48, 48, 48, 48, 48, 103]⟩] 9) (by have := hc6.lt; omega) (hc6.below hb6 hc6.lt hc6.code_lt)).mono ?_
    rintro e w7 ⟨z, hz, rfl, hc7, g7⟩
    have G7 := (G6.trans (below_grown hb6 (some a))).trans g7
    replace CR := (CR.on hb6).grown g7 (fun e => hRa (by cases e; rfl))
    replace CX := (CX.on hb6).grown g7 (fun e => hXw.2.2.1 (by cases e; rfl))
    have ob7 : Own 5 w7 w.heap.size w7.heap.size (.slice (some ⟨gb, 0, none⟩) k cb) k ys := Own.of ((ob6.on hb6).1.kept g7 (.inr (fun e => hgba (by simpa [Value.ownBlock] using e))))
    have hz16 : z.size ≤ 16 := by
      simp only [List.mem_cons, List.not_mem_nil, or_false] at hz
      rcases hz with rfl | rfl | rfl <;> decide
    clear hc6 G6 ob6 hb6 g7 hz
    have s0 : w7.cell? ⟨XB, 0, none⟩ = _ := (CX.2 0).1
    have fs := (CX.2 0).2
    obtain ⟨V, hV⟩ : ∃ V, V = w7.setCell ⟨XB, 0, none⟩ (.string z) := ⟨_, rfl⟩
    have gV : w7.grownBy V (some XB) := by rw [hV]; exact set_grown _ _ _ _
    have CX' := CX.set 0 (by simp) (.string z)
    rw [← hV] at CX'
    replace CR := CR.grown gV (fun e => hXw.2.1 (by cases e; rfl))
    have GV : w.grownBy V (some a) := G7.andThen gV (fun j hj => by cases hj; exact .inl hXw.1)
    have hcV : Cur V a p n c xs := hc7.below ((Below.refl _ _).grown gV G7.size (fun j hj => by cases hj; exact hXw.1)) ha hcl
    have oV : Own 5 V w.heap.size V.heap.size (.slice (some ⟨gb, 0, none⟩) k cb) k ys := Own.of (ob7.1.kept gV (.inr (fun e => hgX (by simpa [Value.ownBlock] using e))))
    replace hV : Hid (w7.setCell ⟨XB, 0, none⟩ (.string z) = V) := hV.symm
    clear CX gV G7 hc7 ob7
    have CX : Cells V XB #[.string z, .int .i64 tp, .int .i64 dd, .slice (some ⟨gb, 0, none⟩) k cb] := CX'
    clear CX'
    have cx0 : V.cell? ⟨XB, 0, none⟩ = some (.string z) := (CX.2 0).1
    have cx1 : V.cell? ⟨XB, 1, none⟩ = some (.int .i64 tp) := (CX.2 1).1
    have cx2 : V.cell? ⟨XB, 2, none⟩ = some (.int .i64 dd) := (CX.2 2).1
    have cx3 : V.cell? ⟨XB, 3, none⟩ = some (.slice (some ⟨gb, 0, none⟩) k cb) := (CX.2 3).1
    obtain ⟨Y, hY, ⟨u0, y0⟩, f0, ⟨u1, y1⟩, f1, ⟨u2, y2⟩, f2, ⟨u3, y3⟩, f3, q0, q1, q2', q3, hszY, hgY⟩ := itemStore CR rfl z tp dd (some ⟨gb, 0, none⟩) k cb
    have GY : w.grownBy Y (some a) := GV.andThen hgY.out (fun j hj => by cases hj; exact .inl hRw.1)
    have cY : Cur Y a p n c xs := hcV.below ((Below.refl _ _).grown hgY.out GV.size (fun j hj => by cases hj; exact hRw.1)) ha hcl
    have oY : Own 5 Y w.heap.size Y.heap.size (.slice (some ⟨gb, 0, none⟩) k cb) k ys := Own.of (oV.1.kept hgY.out (.inr (fun e => hgR (by simpa [Value.ownBlock] using e))))
    clear hgY GV hcV oV CR CX
    go_wp2_with (first | rw [hV.out] | rw [hY.out])
    (try simp only [Exit.inBlock, Exit.then])
    refine bodyPost_ret (v := .agg #[.string z, .int .i64 tp, .int .i64 dd, .slice (some ⟨gb, 0, none⟩) k cb]) ?_ rfl ⟨⟨z, tp, dd, some ⟨gb, 0, none⟩, k, cb, ys⟩, rfl, hz16, by show k ≤ 6; omega, oY, cY, GY⟩
    simp only [results, Try.f40]
    go_simp
  by_cases e1 : sw = 1
  · subst e1
    have hb6 : Below w6.heap.size w6 (w6.alloc (.cells #[.int .i64 (-1), .int .i64 9, .int .i64 10] 3)) := (Below.refl _ _).alloc (Nat.le_refl _) _
    go_wp2_with (fail)
    refine (l1PickInt_any a p n c xs w6.heap.size 3 [-1, 9, 10] _ (by omega) (by omega) rfl (lit_ints w6 [-1, 9, 10] 3) (by have := hc6.lt; omega) (hc6.below hb6 hc6.lt hc6.code_lt)).mono ?_
    rintro e w7 ⟨z, hz, rfl, hc7, g7⟩
    have G7 := (G6.trans (below_grown hb6 (some a))).trans g7
    replace CR := (CR.on hb6).grown g7 (fun e => hRa (by cases e; rfl))
    replace CX := (CX.on hb6).grown g7 (fun e => hXw.2.2.1 (by cases e; rfl))
    have ob7 : Own 5 w7 w.heap.size w7.heap.size (.slice (some ⟨gb, 0, none⟩) k cb) k ys := Own.of ((ob6.on hb6).1.kept g7 (.inr (fun e => hgba (by simpa [Value.ownBlock] using e))))
    clear hc6 G6 ob6 hb6 g7 hz
    have s0 : w7.cell? ⟨XB, 1, none⟩ = _ := (CX.2 1).1
    have fs := (CX.2 1).2
    obtain ⟨V, hV⟩ : ∃ V, V = w7.setCell ⟨XB, 1, none⟩ (.int .i64 z) := ⟨_, rfl⟩
    have gV : w7.grownBy V (some XB) := by rw [hV]; exact set_grown _ _ _ _
    have CX' := CX.set 1 (by simp) (.int .i64 z)
    rw [← hV] at CX'
    replace CR := CR.grown gV (fun e => hXw.2.1 (by cases e; rfl))
    have GV : w.grownBy V (some a) := G7.andThen gV (fun j hj => by cases hj; exact .inl hXw.1)
    have hcV : Cur V a p n c xs := hc7.below ((Below.refl _ _).grown gV G7.size (fun j hj => by cases hj; exact hXw.1)) ha hcl
    have oV : Own 5 V w.heap.size V.heap.size (.slice (some ⟨gb, 0, none⟩) k cb) k ys := Own.of (ob7.1.kept gV (.inr (fun e => hgX (by simpa [Value.ownBlock] using e))))
    replace hV : Hid (w7.setCell ⟨XB, 1, none⟩ (.int .i64 z) = V) := hV.symm
    clear CX gV G7 hc7 ob7
    have CX : Cells V XB #[.string s, .int .i64 z, .int .i64 dd, .slice (some ⟨gb, 0, none⟩) k cb] := CX'
    clear CX'
    have cx0 : V.cell? ⟨XB, 0, none⟩ = some (.string s) := (CX.2 0).1
    have cx1 : V.cell? ⟨XB, 1, none⟩ = some (.int .i64 z) := (CX.2 1).1
    have cx2 : V.cell? ⟨XB, 2, none⟩ = some (.int .i64 dd) := (CX.2 2).1
    have cx3 : V.cell? ⟨XB, 3, none⟩ = some (.slice (some ⟨gb, 0, none⟩) k cb) := (CX.2 3).1
    obtain ⟨Y, hY, ⟨u0, y0⟩, f0, ⟨u1, y1⟩, f1, ⟨u2, y2⟩, f2, ⟨u3, y3⟩, f3, q0, q1, q2', q3, hszY, hgY⟩ := itemStore CR rfl s z dd (some ⟨gb, 0, none⟩) k cb
    have GY : w.grownBy Y (some a) := GV.andThen hgY.out (fun j hj => by cases hj; exact .inl hRw.1)
    have cY : Cur Y a p n c xs := hcV.below ((Below.refl _ _).grown hgY.out GV.size (fun j hj => by cases hj; exact hRw.1)) ha hcl
    have oY : Own 5 Y w.heap.size Y.heap.size (.slice (some ⟨gb, 0, none⟩) k cb) k ys := Own.of (oV.1.kept hgY.out (.inr (fun e => hgR (by simpa [Value.ownBlock] using e))))
    clear hgY GV hcV oV CR CX
    go_wp2_with (first | rw [hV.out] | rw [hY.out])
    (try simp only [Exit.inBlock, Exit.then])
    refine bodyPost_ret (v := .agg #[.string s, .int .i64 z, .int .i64 dd, .slice (some ⟨gb, 0, none⟩) k cb]) ?_ rfl ⟨⟨s, z, dd, some ⟨gb, 0, none⟩, k, cb, ys⟩, rfl, hs, by show k ≤ 6; omega, oY, cY, GY⟩
    simp only [results, Try.f40]
    go_simp
  by_cases e2 : sw = 2
  · subst e2
    have hb6 : Below w6.heap.size w6 (w6.alloc (.cells #[.int .i64 (-1), .int .i64 100000, .int .i64 100001] 3)) := (Below.refl _ _).alloc (Nat.le_refl _) _
    go_wp2_with (fail)
    refine (l1PickInt_any a p n c xs w6.heap.size 3 [-1, 100000, 100001] _ (by omega) (by omega) rfl (lit_ints w6 [-1, 100000, 100001] 3) (by have := hc6.lt; omega) (hc6.below hb6 hc6.lt hc6.code_lt)).mono ?_
    rintro e w7 ⟨z, hz, rfl, hc7, g7⟩
    have G7 := (G6.trans (below_grown hb6 (some a))).trans g7
    replace CR := (CR.on hb6).grown g7 (fun e => hRa (by cases e; rfl))
    replace CX := (CX.on hb6).grown g7 (fun e => hXw.2.2.1 (by cases e; rfl))
    have ob7 : Own 5 w7 w.heap.size w7.heap.size (.slice (some ⟨gb, 0, none⟩) k cb) k ys := Own.of ((ob6.on hb6).1.kept g7 (.inr (fun e => hgba (by simpa [Value.ownBlock] using e))))
    clear hc6 G6 ob6 hb6 g7 hz
    have s0 : w7.cell? ⟨XB, 2, none⟩ = _ := (CX.2 2).1
    have fs := (CX.2 2).2
    obtain ⟨V, hV⟩ : ∃ V, V = w7.setCell ⟨XB, 2, none⟩ (.int .i64 z) := ⟨_, rfl⟩
    have gV : w7.grownBy V (some XB) := by rw [hV]; exact set_grown _ _ _ _
    have CX' := CX.set 2 (by simp) (.int .i64 z)
    rw [← hV] at CX'
    replace CR := CR.grown gV (fun e => hXw.2.1 (by cases e; rfl))
    have GV : w.grownBy V (some a) := G7.andThen gV (fun j hj => by cases hj; exact .inl hXw.1)
    have hcV : Cur V a p n c xs := hc7.below ((Below.refl _ _).grown gV G7.size (fun j hj => by cases hj; exact hXw.1)) ha hcl
    have oV : Own 5 V w.heap.size V.heap.size (.slice (some ⟨gb, 0, none⟩) k cb) k ys := Own.of (ob7.1.kept gV (.inr (fun e => hgX (by simpa [Value.ownBlock] using e))))
    replace hV : Hid (w7.setCell ⟨XB, 2, none⟩ (.int .i64 z) = V) := hV.symm
    clear CX gV G7 hc7 ob7
    have CX : Cells V XB #[.string s, .int .i64 tp, .int .i64 z, .slice (some ⟨gb, 0, none⟩) k cb] := CX'
    clear CX'
    have cx0 : V.cell? ⟨XB, 0, none⟩ = some (.string s) := (CX.2 0).1
    have cx1 : V.cell? ⟨XB, 1, none⟩ = some (.int .i64 tp) := (CX.2 1).1
    have cx2 : V.cell? ⟨XB, 2, none⟩ = some (.int .i64 z) := (CX.2 2).1
    have cx3 : V.cell? ⟨XB, 3, none⟩ = some (.slice (some ⟨gb, 0, none⟩) k cb) := (CX.2 3).1
    obtain ⟨Y, hY, ⟨u0, y0⟩, f0, ⟨u1, y1⟩, f1, ⟨u2, y2⟩, f2, ⟨u3, y3⟩, f3, q0, q1, q2', q3, hszY, hgY⟩ := itemStore CR rfl s tp z (some ⟨gb, 0, none⟩) k cb
    have GY : w.grownBy Y (some a) := GV.andThen hgY.out (fun j hj => by cases hj; exact .inl hRw.1)
    have cY : Cur Y a p n c xs := hcV.below ((Below.refl _ _).grown hgY.out GV.size (fun j hj => by cases hj; exact hRw.1)) ha hcl
    have oY : Own 5 Y w.heap.size Y.heap.size (.slice (some ⟨gb, 0, none⟩) k cb) k ys := Own.of (oV.1.kept hgY.out (.inr (fun e => hgR (by simpa [Value.ownBlock] using e))))
    clear hgY GV hcV oV CR CX
    go_wp2_with (first | rw [hV.out] | rw [hY.out])
    (try simp only [Exit.inBlock, Exit.then])
    refine bodyPost_ret (v := .agg #[.string s, .int .i64 tp, .int .i64 z, .slice (some ⟨gb, 0, none⟩) k cb]) ?_ rfl ⟨⟨s, tp, z, some ⟨gb, 0, none⟩, k, cb, ys⟩, rfl, hs, by show k ≤ 6; omega, oY, cY, GY⟩
    simp only [results, Try.f40]
    go_simp
  have n0 : (sw == 0) = false := by simp [e0]
  have n1 : (sw == 1) = false := by simp [e1]
  have n2 : (sw == 2) = false := by simp [e2]
  have GV := G6
  have hcV := hc6
  have oV := ob6
  clear G6 hc6 ob6 e0 e1 e2
  have cx0 : w6.cell? ⟨XB, 0, none⟩ = some (.string s) := (CX.2 0).1
  have cx1 : w6.cell? ⟨XB, 1, none⟩ = some (.int .i64 tp) := (CX.2 1).1
  have cx2 : w6.cell? ⟨XB, 2, none⟩ = some (.int .i64 dd) := (CX.2 2).1
  have cx3 : w6.cell? ⟨XB, 3, none⟩ = some (.slice (some ⟨gb, 0, none⟩) k cb) := (CX.2 3).1
  obtain ⟨Y, hY, ⟨u0, y0⟩, f0, ⟨u1, y1⟩, f1, ⟨u2, y2⟩, f2, ⟨u3, y3⟩, f3, q0, q1, q2', q3, hszY, hgY⟩ := itemStore CR rfl s tp dd (some ⟨gb, 0, none⟩) k cb
  have GY : w.grownBy Y (some a) := GV.andThen hgY.out (fun j hj => by cases hj; exact .inl hRw.1)
  have cY : Cur Y a p n c xs := hcV.below ((Below.refl _ _).grown hgY.out GV.size (fun j hj => by cases hj; exact hRw.1)) ha hcl
  have oY : Own 5 Y w.heap.size Y.heap.size (.slice (some ⟨gb, 0, none⟩) k cb) k ys := Own.of (oV.1.kept hgY.out (.inr (fun e => hgR (by simpa [Value.ownBlock] using e))))
  clear hgY GV hcV oV CR CX
  go_wp2_with (rw [hY.out])
  (try simp only [Exit.inBlock, Exit.then])
  refine bodyPost_ret (v := .agg #[.string s, .int .i64 tp, .int .i64 dd, .slice (some ⟨gb, 0, none⟩) k cb]) ?_ rfl ⟨⟨s, tp, dd, some ⟨gb, 0, none⟩, k, cb, ys⟩, rfl, hs, by show k ≤ 6; omega, oY, cY, GY⟩
  simp only [results, Try.f40]
  go_simp

end Go.Proofs.Ytkdbcplcpcdnbaa

namespace Go.Proofs.Ytkdbcplcpcdnbaa
open Go.RowKit
set_option maxRecDepth 100000

theorem OwnItems.curs {w w' : World} {lo hi a : Nat} {v : Value} {n : Nat} {its : List ItA} (h : OwnItems w lo hi v n its) (hg : w.grownBy w' (some a)) (ha : a < lo) : OwnItems w' lo hi v n its := h.keptLow hg ha
/-- What is small of drawn items. -/
def Drawn (its : List ItA) : Prop := its.length ≤ 9 ∧ ∀ x ∈ its, x.s.size ≤ 16 ∧ x.n ≤ 6 ∧ x.xs.length = x.n
theorem Drawn.lies {w : World} {lo hi : Nat} {v : Value} {n : Nat} {its : List ItA} (h : OwnItems w lo hi v n its) (hd : Drawn its) : ∀ x ∈ its, x.Lies w := h.lies fun x hx => by have := hd.2 x hx; omega
theorem drawn_con {its its' : List ItA} {w : World} {lo hi : Nat} {v : Value} {n : Nat} (h : OwnItems w lo hi v n its') (e : its'.map ItA.con = its.map ItA.con) (hl : its.length ≤ 9) (hs : ∀ x ∈ its, x.s.size ≤ 16 ∧ x.xs.length ≤ 6) : Drawn its' := by
  refine ⟨by rw [con_len e]; exact hl, fun x hx => ?_⟩
  obtain ⟨y, hy, h2⟩ := con_mem e hx
  have hh := hs y hy
  simp only [ItA.con, Prod.mk.injEq] at h2
  rw [h2.1, h2.2.2.2] at hh
  have := (h.bytes x hx).len
  exact ⟨hh.1, by omega, this⟩
theorem putR_mem {x : ItA} {its : List ItA} {y : ItA} (h : y ∈ putR x its) : y ∈ its ∨ y = x := by
  unfold putR at h
  split at h
  · rcases List.mem_append.1 h with h | h
    · exact .inl (List.mem_filter.1 h).1
    · exact .inr (List.mem_singleton.1 h)
  · exact .inl h
theorem putR_le (x : ItA) (its : List ItA) : (putR x its).length ≤ its.length + 1 := by
  unfold putR
  split
  · rw [putL, List.length_append]
    have : (putK x its).length ≤ its.length := List.length_filter_le _ _
    simp
    omega
  · omega

set_option maxHeartbeats 8000000 in
theorem l13DrawRight_any (a : Nat) (p : Option Addr) (n c : Nat) (xs : List Int) (w : World) (hcur : Cur w a p n c xs) :
    Calls Try.prog 71 #[.pointer (some ⟨a, 0, none⟩)] w fun e w' => ∃ (q : Option Addr) (j cap : Nat) (its : List ItA), e = .returned (.slice q j cap) ∧ j ≤ 8 ∧ OwnItems w' w.heap.size w'.heap.size (.slice q j cap) j its ∧ Drawn its ∧ Cur w' a p n c xs ∧ w.grownBy w' (some a) := by
  have ha := hcur.lt
  have hcl := hcur.code_lt
  have hN := OwnItems.none13 w w.heap.size (Nat.le_refl _)
  obtain ⟨w1, hw1⟩ : ∃ w1, w1 = w.alloc (.cells #[] 26) := ⟨_, rfl⟩
  have b1 : Below w.heap.size w w1 := by rw [hw1]; exact made_below _ _ (Below.refl _ _)
  rw [← hw1] at hN
  replace hw1 : Hid (w.alloc (.cells #[] 26) = w1) := hw1.symm
  have hc1 := hcur.below b1 ha hcl
  have G1 := below_grown b1 (some a)
  go_enter Try.func71, Try.ntmps71
  go_wp2_with (rw [hw1.out])
  clear hw1 b1
  go_loopw [3, 4] (fun q i wr => ∃ k : Nat, k ≤ 8 ∧ i = .int .i64 k ∧ (∃ (its : List ItA) (pq : Option Addr) (j cap : Nat), q = .slice pq j cap ∧ j ≤ k ∧ Drawn its ∧ OwnItems wr w.heap.size wr.heap.size (.slice pq j cap) j its) ∧ Cur wr a p n c xs ∧ w.grownBy wr (some a)) (fun _ i _ => 9 - (intOf i).toNat)
  case atStart => exact ⟨0, by omega, rfl, ⟨[], some ⟨w.heap.size, 0, none⟩, 0, 0, rfl, Nat.le_refl _, ⟨by simp, fun x hx => by simp at hx⟩, hN⟩, hc1, G1⟩
  case round =>
    clear hN hc1 G1
    obtain ⟨k, hk, rfl, ⟨its, pq, j, cap, rfl, hj, hD, hO⟩, hc, G⟩ := hrel
    go_wp2_with (fail)
    refine (l1Below_any a p n c xs 9 _ (by omega) (by omega) hc).mono ?_
    rintro e w2 ⟨t, rfl, ht0, ht1, hc2, g2⟩
    have hO2 : OwnItems w2 w.heap.size w2.heap.size (.slice pq j cap) j its := (hO.curs g2 ha).wide (Nat.le_refl _) g2.size
    have G2 := G.trans g2
    clear hO hc g2 G
    by_cases hlt : (k : Int) < t
    · have hk8 : k < 8 := by omega
      go_wp2_with (fail)
      refine (l13DrawItem_any a p n c xs _ hc2).mono ?_
      rintro e w3 ⟨x, rfl, hxs, hxn, ox, hc3, g3⟩
      have z2 := G2.size
      have hO3 := hO2.curs g3 ha
      have G3 := G2.trans g3
      have lx : x.Lies w3 := ⟨by omega, ox.len, Own.bytes (p := x.p) (c := x.c) ox⟩
      have CP := specPut_any pq j cap its x w3 (by omega) hO3.len hO3.items (hD.lies hO3) (fun y hy => by have := hD.2 y hy; omega) (fun y hy => by have := hD.2 y hy; omega) lx (by omega) (by omega)
      have hst : Hid (∀ w4 (v : Value) (its' : List ItA), OwnItems w4 w3.heap.size w4.heap.size v (putR x its).length its' → its'.map ItA.con = (putR x its).map ItA.con → Drawn its') := fun w4 v its' o e => drawn_con o e (by have := putR_le x its; have := hO3.len; omega) (fun y hy => by
        rcases putR_mem hy with h | h
        · have := hD.2 y h; exact ⟨this.1, by omega⟩
        · rw [h]; have := ox.len; exact ⟨hxs, by omega⟩)
      have hlen := putR_le x its
      have hl3 := hO3.len
      obtain ⟨L, hL⟩ : ∃ L, L = putR x its := ⟨_, rfl⟩
      rw [← hL] at CP hst hlen
      obtain ⟨nL, hnL⟩ : ∃ nL, nL = L.length := ⟨_, rfl⟩
      rw [← hnL] at CP hst hlen
      generalize qB (putL x its) = F at CP
      clear hO2 hO3 hc2 g3 G2 lx ox hD hL hnL
      go_wp2_with (fail)
      refine CP.mono ?_
      rintro e w4 ⟨q4, c4, its4, rfl, o4, e4, b4⟩
      have hD4 := hst.out w4 _ its4 o4 e4.out
      have G4 := G3.trans (below_grown b4 (some a))
      have hc4 := hc3.below b4 hc3.lt hc3.code_lt
      have z3 := G3.size
      have o4' : OwnItems w4 w.heap.size w4.heap.size (.slice q4 nL c4) nL its4 := o4.wide z3 (Nat.le_refl _)
      clear CP hst e4 o4 b4 hc3 G3
      go_wp2_with (fail)
      go_roundw
      case rel => exact ⟨k + 1, by omega, by go_num, ⟨its4, q4, nL, c4, rfl, by omega, hD4, o4'⟩, hc4, G4⟩
      case measure => simp [intOf]; omega
    · go_wp2_with (fail)
      go_ret
      exact ⟨pq, j, cap, its, rfl, by omega, hO2, hD, hc2, G2⟩

set_option maxHeartbeats 8000000 in
theorem l13Draw_any (a : Nat) (p : Option Addr) (n c : Nat) (xs : List Int) (w : World) (hcur : Cur w a p n c xs) :
    Calls Try.prog 39 #[.pointer (some ⟨a, 0, none⟩)] w fun e w' => ∃ (q : Option Addr) (j cap : Nat) (its : List ItA), e = .returned (.slice q j cap) ∧ j ≤ 9 ∧ OwnItems w' w.heap.size w'.heap.size (.slice q j cap) j its ∧ Drawn its ∧ Cur w' a p n c xs ∧ w.grownBy w' (some a) := by
  have ha := hcur.lt
  have hcl := hcur.code_lt
  go_enter Try.func39, Try.ntmps39
  go_wp2_with (fail)
  refine (l13DrawRight_any a p n c xs _ hcur).mono ?_
  rintro e w1 ⟨q, j, cap, its, rfl, hj, hO, hD, hc1, G1⟩
  go_wp2_with (fail)
  refine (l1Once_any a p n c xs 6 _ (by omega) (by omega) hc1).mono ?_
  rintro e w2 ⟨b, rfl, hc2, g2⟩
  have hO2 : OwnItems w2 w.heap.size w2.heap.size (.slice q j cap) j its := (hO.curs g2 ha).wide (Nat.le_refl _) g2.size
  have G2 := G1.trans g2
  clear hO g2 G1 hc1
  cases b
  · go_wp2_with (fail)
    go_ret
    exact ⟨q, j, cap, its, rfl, by omega, hO2, hD, hc2, G2⟩
  · go_wp2_with (fail)
    refine (l13DrawItem_any a p n c xs _ hc2).mono ?_
    rintro e w3 ⟨x, rfl, hxs, hxn, ox, hc3, g3⟩
    have z2 := G2.size
    have hO3 : OwnItems w3 w.heap.size w3.heap.size (.slice q j cap) j its := (hO2.curs g3 ha).wide (Nat.le_refl _) g3.size
    have hap := fresh_apart hO2 (x := x) ox
    have G3 := G2.trans g3
    have z3 := G3.size
    have ox3 : Own 5 w3 w.heap.size w3.heap.size x.slice x.n x.xs := Own.wide ox z2 (Nat.le_refl _)
    have hD' : Drawn (its ++ [x]) := ⟨by rw [List.length_append, hO3.len]; simp; omega, fun y hy => by
      rcases List.mem_append.1 hy with h | h
      · exact hD.2 y h
      · rw [List.mem_singleton] at h; rw [h]; exact ⟨hxs, hxn, ox.len⟩⟩
    clear hO2 hc2 g3 G2 ox hD
    go_wp2_with (at_builtin; refine list_pushItem (w := w3) x hO3 ox3 hap.1 hap.2 (by omega) z3 _ _ rfl rfl rfl rfl ?_; intro g4 c4 w4 hO4 hb4)
    have hc4 := hc3.below hb4 ha hcl
    have G4 : w.grownBy w4 (some a) := grown_below G3 hb4
    clear hO3 ox3 hap hc3 G3
    go_wp2_with (fail)
    go_ret
    exact ⟨_, _, _, _, rfl, by omega, hO4, hD', hc4, G4⟩

end Go.Proofs.Ytkdbcplcpcdnbaa

namespace Go.Proofs.Ytkdbcplcpcdnbaa
open Go.RowKit
set_option maxRecDepth 100000

theorem due_at {now : Int} {its its' : List ItA} (e : its'.map ItA.con = (dueL now its).map ItA.con) {k : Nat} (hk : k < its'.length) : now ≤ (its'.getD k default).d := by
  obtain ⟨y, hy, h2⟩ := con_mem e (getD_mem hk)
  have h3 := of_decide_eq_true (List.mem_filter.1 hy).2
  simp only [ItA.con, Prod.mk.injEq] at h2
  rw [← h2.2.2.1]
  exact h3
theorem take_is (s : ByteArray) : ∀ {its : List ItA} {z : ItA × List ItA}, takeF s its = some z → z.1.s = s ∧ cntI s z.2 + 1 = cntI s its
  | [], z, h => by simp [takeF] at h
  | x :: r, z, h => by
    by_cases e : x.s = s
    · simp only [takeF, e, if_true, Option.some.injEq] at h
      subst h
      exact ⟨e, by simp [cntI, e]⟩
    · simp only [takeF, e, if_false, Option.map_eq_some_iff] at h
      obtain ⟨y, hy, rfl⟩ := h
      obtain ⟨h1, h2⟩ := take_is s hy
      refine ⟨h1, ?_⟩
      simp only [cntI, List.countP_cons, e, decide_false] at h2 ⊢
      exact h2
theorem take_not (s : ByteArray) : ∀ {its : List ItA}, takeF s its = none → cntI s its = 0
  | [], h => rfl
  | x :: r, h => by
    by_cases e : x.s = s
    · simp [takeF, e] at h
    · simp only [takeF, e, if_false, Option.map_eq_none_iff] at h
      have := take_not s h
      simp only [cntI, List.countP_cons, e, decide_false] at this ⊢
      exact this
theorem take_some (s : ByteArray) (its : List ItA) : (takeF s its).isSome = decide ((0 : Int) < (cntI s its : Nat)) := by
  cases h : takeF s its with
  | none => simp [take_not s h]
  | some z =>
    have := (take_is s h).2
    rw [Option.isSome_some]
    exact (decide_eq_true (by omega)).symm
theorem takeX_s (s : ByteArray) (its : List ItA) (h : (takeF s its).isSome = true) : (takeX s its).s = s := by
  cases e : takeF s its with
  | none => rw [e] at h; cases h
  | some z => simpa [takeX, e] using (take_is s e).1
theorem takeL_cnt (s : ByteArray) (its : List ItA) (h : (takeF s its).isSome = true) : cntI s (takeL s its) + 1 = cntI s its := by
  cases e : takeF s its with
  | none => rw [e] at h; cases h
  | some z => simpa [takeL, e] using (take_is s e).2

/-- How many there are with that route and topic, where the topic is above 0. -/
def hitI (s : ByteArray) (t : Int) (its : List ItA) : Nat := its.countP (fun y => decide (0 < t) && (decide (y.s = s) && decide (y.t = t)))
theorem hitI_step (s : ByteArray) (t : Int) (its : List ItA) (k : Nat) (hk : k < its.length) : hitI s t (its.take (k + 1)) = hitI s t (its.take k) + if 0 < t ∧ (its.getD k default).s = s ∧ (its.getD k default).t = t then 1 else 0 := by
  unfold hitI
  rw [take_getD hk, List.countP_append]
  congr 1
  rw [List.countP_cons, List.countP_nil]
  by_cases h : 0 < t ∧ (its.getD k default).s = s ∧ (its.getD k default).t = t
  · rw [if_pos h, decide_eq_true h.1, decide_eq_true h.2.1, decide_eq_true h.2.2]
    rfl
  · rw [if_neg h]
    have hh : (decide (0 < t) && (decide ((its.getD k default).s = s) && decide ((its.getD k default).t = t))) = false := by
      rw [Bool.eq_false_iff]
      intro q
      simp only [Bool.and_eq_true, decide_eq_true_eq] at q
      exact h q
    rw [hh]
    rfl
theorem hitI_le (s : ByteArray) (t : Int) (its : List ItA) : hitI s t its ≤ its.length := List.countP_le_length
theorem hitI_con (s : ByteArray) (t : Int) {its its' : List ItA} (e : its'.map ItA.con = its.map ItA.con) : hitI s t its' = hitI s t its := by
  have f : ∀ l : List ItA, hitI s t l = (l.map ItA.con).countP (fun (c : Con) => decide (0 < t) && (decide (c.1 = s) && decide (c.2.1 = t))) := fun l => by
    rw [List.countP_map]; rfl
  rw [f, f, e]
theorem hitI_put (x : ItA) (its : List ItA) (h : 0 < x.t) : hitI x.s x.t (putL x its) = 1 := by
  have h1 : hitI x.s x.t (putK x its) = 0 := by
    unfold hitI putK
    rw [List.countP_eq_zero]
    intro y hy
    have h4 := (List.mem_filter.1 hy).2
    intro h5
    rw [h5] at h4
    cases h4
  have h2 : hitI x.s x.t [x] = 1 := by simp [hitI, h]
  unfold putL
  have h3 : hitI x.s x.t (putK x its ++ [x]) = hitI x.s x.t (putK x its) + hitI x.s x.t [x] := by unfold hitI; rw [List.countP_append]
  omega
theorem put_yes {x : ItA} {its : List ItA} (h : qB (putL x its) = true) : putR x its = putL x its := by unfold putR; rw [if_pos h]
theorem put_no {x : ItA} {its : List ItA} (h : qB (putL x its) = false) : putR x its = its := by unfold putR; rw [if_neg (by rw [h]; decide)]
theorem put_topic {x : ItA} {its : List ItA} (h : qB (putL x its) = true) : 0 ≤ x.t := by
  have hq : QOk (putL x its) := by
    refine Classical.byContradiction fun q => ?_
    rw [qB_false q] at h
    cases h
  have h1 := (hq.2 (putK x its).length (by simp [putL])).1
  have e : (putL x its).getD (putK x its).length default = x := by simp [putL, List.getD_eq_getElem?_getD]
  rw [e] at h1
  simp only [itB, Bool.and_eq_true, decide_eq_true_eq] at h1
  omega
theorem put_last {x : ItA} {its its' : List ItA} (e : its'.map ItA.con = (putL x its).map ItA.con) : (its'.getD (its'.length - 1) default).con = x.con := by
  have hl : its'.length = (putK x its).length + 1 := by rw [con_len e]; simp [putL]
  have h1 := congrArg (fun l => l.getD (putK x its).length (default : ItA).con) e
  have h2 : ∀ (l : List ItA) (i : Nat), (l.map ItA.con).getD i (default : ItA).con = (l.getD i default).con := fun l i => by
    simp [List.getD_eq_getElem?_getD, List.getElem?_map, Option.getD_map]
  rw [h2, h2] at h1
  rw [hl, Nat.add_sub_cancel, h1]
  simp [putL, List.getD_eq_getElem?_getD]
theorem takeF_mem (s : ByteArray) : ∀ {its : List ItA} {z : ItA × List ItA}, takeF s its = some z → z.1 ∈ its ∧ z.2.length ≤ its.length ∧ ∀ x ∈ z.2, x ∈ its
  | [], z, h => by simp [takeF] at h
  | x :: r, z, h => by
    by_cases e : x.s = s
    · simp only [takeF, e, if_true, Option.some.injEq] at h
      subst h
      exact ⟨by simp, by simp, fun y hy => by simp [hy]⟩
    · simp only [takeF, e, if_false, Option.map_eq_some_iff] at h
      obtain ⟨y, hy, rfl⟩ := h
      obtain ⟨h1, h2, h3⟩ := takeF_mem s hy
      refine ⟨by simp [h1], by simpa using h2, fun v hv => ?_⟩
      rcases List.mem_cons.1 hv with rfl | hv
      · simp
      · simp [h3 v hv]
theorem takeL_mem (s : ByteArray) (its : List ItA) : ∀ x ∈ takeL s its, x ∈ its := by
  cases e : takeF s its with
  | none => simp [takeL, e]
  | some z => simpa [takeL, e] using (takeF_mem s e).2.2
theorem takeL_le (s : ByteArray) (its : List ItA) : (takeL s its).length ≤ its.length := by
  cases e : takeF s its with
  | none => simp [takeL, e]
  | some z => simpa [takeL, e] using (takeF_mem s e).2.1
theorem takeX_mem (s : ByteArray) (its : List ItA) : takeX s its ∈ its ∨ takeX s its = default := by
  cases e : takeF s its with
  | none => exact Or.inr (by simp [takeX, e])
  | some z => exact Or.inl (by simpa [takeX, e] using (takeF_mem s e).1)

/-- Items that are as small as those that are drawn. -/
def Sm (its : List ItA) : Prop := ∀ x ∈ its, x.s.size ≤ 16 ∧ x.n ≤ 6 ∧ x.xs.length = x.n
def SmC (LC : List Con) : Prop := ∀ c ∈ LC, c.1.size ≤ 16 ∧ c.2.2.2.length ≤ 6
theorem Sm.con {its : List ItA} (h : Sm its) : SmC (its.map ItA.con) := fun c hc => by
  obtain ⟨x, hx, rfl⟩ := List.mem_map.1 hc
  obtain ⟨h1, h2, h3⟩ := h x hx
  exact ⟨h1, by show x.xs.length ≤ 6; omega⟩
theorem SmC.sm {w : World} {lo hi : Nat} {v : Value} {n : Nat} {its : List ItA} {LC : List Con} (h : SmC LC) (r : OwnItems w lo hi v n its) (e : Hid (its.map ItA.con = LC)) : Sm its := fun x hx => by
  have h1 := h x.con (by rw [← e.out]; exact List.mem_map.2 ⟨x, hx, rfl⟩)
  have h2 := r.lens x hx
  have h3 : x.xs.length ≤ 6 := h1.2
  exact ⟨h1.1, by omega, h2⟩
theorem Sm.lies {w : World} {lo hi : Nat} {v : Value} {n : Nat} {its : List ItA} (h : Sm its) (r : OwnItems w lo hi v n its) : ∀ x ∈ its, x.Lies w := r.lies fun x hx => by have := h x hx; omega
theorem Sm.fit {its : List ItA} (h : Sm its) : ∀ x ∈ its, x.n ≤ 1048576 := fun x hx => by have := h x hx; omega
theorem Sm.text {its : List ItA} (h : Sm its) : ∀ x ∈ its, x.s.size ≤ 1048576 := fun x hx => by have := h x hx; omega

theorem putBoth (p : Option Addr) (n c : Nat) (its : List ItA) (x : ItA) (hs : Sm its) (hn : n ≤ 9) (hl : its.length = n) (hx : x.s.size ≤ 16 ∧ x.n ≤ 6 ∧ x.xs.length = x.n) :
    ∃ (nA : Nat) (F : Bool) (LA : List Con), nA ≤ 10 ∧ SmC LA ∧ (F = false → LA = its.map ItA.con ∧ nA = n) ∧
      (F = true → 0 < nA ∧ 0 ≤ x.t ∧ ∀ ia : List ItA, ia.map ItA.con = LA → (∀ y ∈ ia, y.xs.length = y.n) → (0 < x.t → hitI x.s x.t ia = 1) ∧ qB ia = true ∧ (ia.getD (nA - 1) default).con = x.con) ∧
      (∀ (X : World) (lo hi lo2 hi2 : Nat), OwnItems X lo hi (.slice p n c) n its → Own 5 X lo2 hi2 x.slice x.n x.xs → Calls Try.prog 9 #[.slice p n c, .agg #[.string x.s, .int .i64 x.t, .int .i64 x.d, .slice x.p x.n x.c]] X fun e w' => ∃ (q : Option Addr) (cq : Nat) (its' : List ItA), e = .returned (.tuple #[.slice q nA cq, .bool F]) ∧ OwnItems w' X.heap.size w'.heap.size (.slice q nA cq) nA its' ∧ Hid (its'.map ItA.con = LA) ∧ Below X.heap.size X w') ∧
      (∀ (X : World) (lo hi lo2 hi2 : Nat), OwnItems X lo hi (.slice p n c) n its → Own 5 X lo2 hi2 x.slice x.n x.xs → Calls Try.prog 8 #[.slice p n c, .agg #[.string x.s, .int .i64 x.t, .int .i64 x.d, .slice x.p x.n x.c]] X fun e w' => ∃ (q : Option Addr) (cq : Nat) (its' : List ItA), e = .returned (.tuple #[.slice q nA cq, .bool F]) ∧ OwnItems w' X.heap.size w'.heap.size (.slice q nA cq) nA its' ∧ Hid (its'.map ItA.con = LA) ∧ Below X.heap.size X w') := by
  have hlies : ∀ (X : World) (lo2 hi2 : Nat), Own 5 X lo2 hi2 x.slice x.n x.xs → x.Lies X := fun X lo2 hi2 o => by
    have o' : Own 5 X lo2 hi2 (.slice x.p x.n x.c) x.n x.xs := o
    exact ⟨by omega, hx.2.2, o'.bytes⟩
  refine ⟨(putR x its).length, qB (putL x its), (putR x its).map ItA.con, ?_, ?_, ?_, ?_, ?_, ?_⟩
  · unfold putR
    split
    · have : (putK x its).length ≤ its.length := List.length_filter_le _ _
      simp only [putL, List.length_append, List.length_singleton]
      omega
    · omega
  · have hq : Sm (putL x its) := fun y hy => by
      rcases List.mem_append.1 hy with hy | hy
      · exact hs y (List.mem_filter.1 hy).1
      · rw [List.mem_singleton] at hy; rw [hy]; exact hx
    unfold putR
    split
    · exact hq.con
    · exact hs.con
  · intro h
    rw [put_no h]
    exact ⟨rfl, hl⟩
  · intro h
    rw [put_yes h]
    refine ⟨by simp [putL], put_topic h, fun ia e li => ⟨fun ht => ?_, ?_, ?_⟩⟩
    · rw [hitI_con x.s x.t e]; exact hitI_put x its ht
    · rw [qB_con e (putL_lens (fun y hy => (hs y hy).2.2) hx.2.2) li]; exact h
    · have h1 := put_last e
      rw [con_len e] at h1
      exact h1
  · intro X lo hi lo2 hi2 r o
    exact specPut_any p n c its x X (by omega) hl r.items (hs.lies r) hs.fit hs.text (hlies X lo2 hi2 o) (by omega) (by omega)
  · intro X lo hi lo2 hi2 r o
    exact implPut_any p n c its x X (by omega) hl r.items (hs.lies r) hs.fit hs.text (hlies X lo2 hi2 o) (by omega) (by omega)

theorem takeBoth (p : Option Addr) (n c : Nat) (its : List ItA) (s : ByteArray) (hs : Sm its) (hn : n ≤ 9) (hl : its.length = n) (hnc : n ≤ c) (hss : s.size ≤ 16) :
    ∃ (nT : Nat) (G : Bool) (XT : Con) (LT : List Con), nT ≤ 9 ∧ XT.2.2.2.length ≤ 6 ∧ SmC LT ∧ G = decide ((0 : Int) < (cntI s its : Nat)) ∧
      (G = true → XT.1 = s ∧ ∀ ir : List ItA, ir.map ItA.con = LT → (cntI s ir : Int) = (cntI s its : Int) - 1) ∧
      (∀ (X : World) (lo hi : Nat), OwnItems X lo hi (.slice p n c) n its → Calls Try.prog 12 #[.slice p n c, .string s] X fun e w' => ∃ (y : ItA) (q : Option Addr) (cq : Nat) (its' : List ItA), e = .returned (.tuple #[.agg #[.string y.s, .int .i64 y.t, .int .i64 y.d, .slice y.p y.n y.c], .slice q nT cq, .bool G]) ∧ Own 5 w' X.heap.size w'.heap.size y.slice y.n y.xs ∧ OwnItems w' X.heap.size w'.heap.size (.slice q nT cq) nT its' ∧ Hid (y.con = XT) ∧ Hid (its'.map ItA.con = LT) ∧ Below X.heap.size X w') ∧
      (∀ (X : World) (lo hi : Nat), OwnItems X lo hi (.slice p n c) n its → Calls Try.prog 11 #[.slice p n c, .string s] X fun e w' => ∃ (y : ItA) (q : Option Addr) (cq : Nat) (its' : List ItA), e = .returned (.tuple #[.agg #[.string y.s, .int .i64 y.t, .int .i64 y.d, .slice y.p y.n y.c], .slice q nT cq, .bool G]) ∧ Own 5 w' X.heap.size w'.heap.size y.slice y.n y.xs ∧ OwnItems w' X.heap.size w'.heap.size (.slice q nT cq) nT its' ∧ Hid (y.con = XT) ∧ Hid (its'.map ItA.con = LT) ∧ Below X.heap.size X w') := by
  have hsub : ∀ x ∈ takeL s its, x ∈ its := takeL_mem s its
  refine ⟨(takeL s its).length, (takeF s its).isSome, (takeX s its).con, (takeL s its).map ItA.con, ?_, ?_, ?_, take_some s its, ?_, ?_, ?_⟩
  · have := takeL_le s its; omega
  · rcases takeX_mem s its with h | h
    · have := hs _ h
      show (takeX s its).xs.length ≤ 6
      omega
    · rw [h]; exact Nat.zero_le _
  · exact Sm.con fun x hx => hs x (hsub x hx)
  · intro h
    refine ⟨takeX_s s its h, fun ir e => ?_⟩
    have h1 := takeL_cnt s its h
    rw [cntI_con s e]
    omega
  · intro X lo hi r
    refine (specTake_any p n c its s X (by omega) hnc hl r.items (hs.lies r) hs.fit).mono ?_
    rintro e w' ⟨y, q, cq, its', rfl, ⟨r1, o1, _, _⟩, ex, el, b⟩
    exact ⟨y, q, cq, its', rfl, o1, r1, ex, el, b⟩
  · intro X lo hi r
    refine (implTake_any p n c its s X (by omega) (by omega) hl r.items (hs.lies r) hs.fit hs.text).mono ?_
    rintro e w' ⟨y, q, cq, its', rfl, ⟨mid, r1, o1, h1, h2⟩, ex, el, b⟩
    exact ⟨y, q, cq, its', rfl, Own.wide o1 (Nat.le_refl _) h2, r1.wide h1 (Nat.le_refl _), ex, el, b⟩

theorem dueBoth (p : Option Addr) (n c : Nat) (its : List ItA) (now : Int) (hs : Sm its) (hn : n ≤ 9) (hl : its.length = n) :
    ∃ (nE : Nat) (LE : List Con), nE ≤ 9 ∧ SmC LE ∧ (∀ ie : List ItA, ie.map ItA.con = LE → ∀ k, k < ie.length → now ≤ (ie.getD k default).d) ∧
      (∀ (X : World) (lo hi : Nat), OwnItems X lo hi (.slice p n c) n its → Calls Try.prog 20 #[.slice p n c, .int .i64 now] X fun e w' => ∃ (q : Option Addr) (cq : Nat) (its' : List ItA), e = .returned (.slice q nE cq) ∧ OwnItems w' X.heap.size w'.heap.size (.slice q nE cq) nE its' ∧ Hid (its'.map ItA.con = LE) ∧ Below X.heap.size X w') ∧
      (∀ (X : World) (lo hi : Nat), OwnItems X lo hi (.slice p n c) n its → Calls Try.prog 14 #[.slice p n c, .int .i64 now] X fun e w' => ∃ (q : Option Addr) (cq : Nat) (its' : List ItA), e = .returned (.slice q nE cq) ∧ OwnItems w' X.heap.size w'.heap.size (.slice q nE cq) nE its' ∧ Hid (its'.map ItA.con = LE) ∧ Below X.heap.size X w') := by
  refine ⟨(dueL now its).length, (dueL now its).map ItA.con, ?_, ?_, fun ie e k hk => due_at e hk, ?_, ?_⟩
  · have : (dueL now its).length ≤ its.length := List.length_filter_le _ _
    omega
  · exact Sm.con fun x hx => hs x (List.mem_filter.1 hx).1
  · intro X lo hi r
    exact specDue_any p n c its now X (by omega) hl r.items (hs.lies r) hs.fit
  · intro X lo hi r
    exact implDue_any p n c its now X (by omega) hl r.items (hs.lies r) hs.fit hs.text

end Go.Proofs.Ytkdbcplcpcdnbaa

namespace Go.Proofs.Ytkdbcplcpcdnbaa
open Go.RowKit
set_option maxRecDepth 100000

theorem dQueueOk (p : Option Addr) (n c : Nat) (xs : List Int) (w : World) (hn : n ≤ 1048576) (hx : xs.length = n) (hb : BytesIn w p n xs) (hr : ∀ x ∈ xs, 0 ≤ x ∧ x < 256) :
    Calls Try.prog 16 #[.slice p n c] w fun e w' => ∃ (q : Option Addr) (j cap : Nat) (its : List ItA), e = .returned (.slice q j cap) ∧ j ≤ 9 ∧ OwnItems w' w.heap.size w'.heap.size (.slice q j cap) j its ∧ Drawn its ∧ Below w.heap.size w w' := by
  go_enter Try.func16, Try.ntmps16
  go_wp2_with (fail)
  refine (l1New_any p n c xs _ hn hx hb hr).mono ?_
  rintro e w1 ⟨a, rfl, ha, ha1, hc1, b1⟩
  go_wp2_with (fail)
  refine (l13Draw_any a p n c xs _ hc1).mono ?_
  rintro e w2 ⟨q, j, cap, its, rfl, hj, hO, hD, hc2, g2⟩
  have k2 := below_cur b1 g2 ha
  have z1 := b1.size
  go_wp2_with (fail)
  go_ret
  exact ⟨q, j, cap, its, rfl, hj, hO.wide z1 (Nat.le_refl _), hD, k2⟩

theorem dTake (p : Option Addr) (n c : Nat) (xs : List Int) (w : World) (hn : n ≤ 1048576) (hx : xs.length = n) (hb : BytesIn w p n xs) (hr : ∀ x ∈ xs, 0 ≤ x ∧ x < 256) :
    Calls Try.prog 10 #[.slice p n c] w fun e w' => ∃ (q : Option Addr) (j cap : Nat) (its : List ItA) (s : ByteArray), e = .returned (.tuple #[.slice q j cap, .string s]) ∧ j ≤ 9 ∧ s.size ≤ 16 ∧ OwnItems w' w.heap.size w'.heap.size (.slice q j cap) j its ∧ Drawn its ∧ Below w.heap.size w w' := by
  go_enter Try.func10, Try.ntmps10
  go_wp2_with (fail)
  refine (l1New_any p n c xs _ hn hx hb hr).mono ?_
  rintro e w1 ⟨a, rfl, ha, ha1, hc1, b1⟩
  go_wp2_with (fail)
  refine (l13Draw_any a p n c xs _ hc1).mono ?_
  rintro e w2 ⟨q, j, cap, its, rfl, hj, hO, hD, hc2, g2⟩
  have k2 := below_cur b1 g2 ha
  have z1 := b1.size
  go_wp2_with (fail)
  refine (l13DrawRoute_any a p n c xs _ hc2).mono ?_
  rintro e w3 ⟨s, rfl, hs, hc3, g3⟩
  have k3 := below_cur k2 g3 ha
  have hO3 : OwnItems w3 w1.heap.size w3.heap.size (.slice q j cap) j its := (hO.curs g3 ha1).wide (Nat.le_refl _) g3.size
  go_wp2_with (fail)
  (try simp only [Exit.inBlock, Exit.then])
  refine bodyPost_ret (v := .tuple #[.slice q j cap, .string s]) ?_ rfl ⟨q, j, cap, its, s, rfl, hj, hs, hO3.wide z1 (Nat.le_refl _), hD, k3⟩
  simp only [results, Try.f10]
  go_simp

theorem dOf (p : Option Addr) (n c : Nat) (xs : List Int) (w : World) (hn : n ≤ 1048576) (hx : xs.length = n) (hb : BytesIn w p n xs) (hr : ∀ x ∈ xs, 0 ≤ x ∧ x < 256) :
    Calls Try.prog 15 #[.slice p n c] w fun e w' => ∃ (q : Option Addr) (j cap : Nat) (its : List ItA) (s : ByteArray), e = .returned (.tuple #[.slice q j cap, .string s]) ∧ j ≤ 9 ∧ s.size ≤ 16 ∧ OwnItems w' w.heap.size w'.heap.size (.slice q j cap) j its ∧ Drawn its ∧ Below w.heap.size w w' := by
  go_enter Try.func15, Try.ntmps15
  go_wp2_with (fail)
  refine (dTake p n c xs _ hn hx hb hr).mono ?_
  rintro e w1 ⟨q, j, cap, its, s, rfl, hj, hs, hO, hD, b1⟩
  go_wp2_with (fail)
  (try simp only [Exit.inBlock, Exit.then])
  refine bodyPost_ret (v := .tuple #[.slice q j cap, .string s]) ?_ rfl ⟨q, j, cap, its, s, rfl, hj, hs, hO, hD, b1⟩
  simp only [results, Try.f15]
  go_simp

theorem dDue (p : Option Addr) (n c : Nat) (xs : List Int) (w : World) (hn : n ≤ 1048576) (hx : xs.length = n) (hb : BytesIn w p n xs) (hr : ∀ x ∈ xs, 0 ≤ x ∧ x < 256) :
    Calls Try.prog 13 #[.slice p n c] w fun e w' => ∃ (q : Option Addr) (j cap : Nat) (its : List ItA) (now : Int), e = .returned (.tuple #[.slice q j cap, .int .i64 now]) ∧ j ≤ 9 ∧ OwnItems w' w.heap.size w'.heap.size (.slice q j cap) j its ∧ Drawn its ∧ Below w.heap.size w w' := by
  go_enter Try.func13, Try.ntmps13
  go_wp2_with (fail)
  refine (l1New_any p n c xs _ hn hx hb hr).mono ?_
  rintro e w1 ⟨a, rfl, ha, ha1, hc1, b1⟩
  go_wp2_with (fail)
  refine (l13Draw_any a p n c xs _ hc1).mono ?_
  rintro e w2 ⟨q, j, cap, its, rfl, hj, hO, hD, hc2, g2⟩
  have k2 := below_cur b1 g2 ha
  have z1 := b1.size
  have hb2 : Below w2.heap.size w2 (w2.alloc (.cells #[.int .i64 0, .int .i64 5, .int .i64 6, .int .i64 100, .int .i64 (-1)] 3)) := (Below.refl _ _).alloc (Nat.le_refl _) _
  go_wp2_with (fail)
  refine (l1PickInt_any a p n c xs w2.heap.size 5 [0, 5, 6, 100, -1] _ (by omega) (by omega) rfl (lit_ints w2 [0, 5, 6, 100, -1] 3) (by have := hc2.lt; omega) (hc2.below hb2 hc2.lt hc2.code_lt)).mono ?_
  rintro e w3 ⟨now, hd, rfl, hc3, g3⟩
  have k3 := below_cur (below_on k2 hb2) g3 ha
  have hO3 : OwnItems w3 w1.heap.size w3.heap.size (.slice q j cap) j its := ((hO.on hb2).curs g3 ha1).wide (Nat.le_refl _) (Nat.le_trans hb2.size g3.size)
  clear hd
  go_wp2_with (fail)
  (try simp only [Exit.inBlock, Exit.then])
  refine bodyPost_ret (v := .tuple #[.slice q j cap, .int .i64 now]) ?_ rfl ⟨q, j, cap, its, now, rfl, hj, hO3.wide z1 (Nat.le_refl _), hD, k3⟩
  simp only [results, Try.f13]
  go_simp

theorem dItemOk (p : Option Addr) (n c : Nat) (xs : List Int) (w : World) (hn : n ≤ 1048576) (hx : xs.length = n) (hb : BytesIn w p n xs) (hr : ∀ x ∈ xs, 0 ≤ x ∧ x < 256) :
    Calls Try.prog 17 #[.slice p n c] w fun e w' => ∃ x : ItA, e = .returned (.agg #[.string x.s, .int .i64 x.t, .int .i64 x.d, .slice x.p x.n x.c]) ∧ x.s.size ≤ 16 ∧ x.n ≤ 6 ∧ Own 5 w' w.heap.size w'.heap.size x.slice x.n x.xs ∧ Below w.heap.size w w' := by
  obtain ⟨w0, hw0⟩ : ∃ w0, w0 = w.alloc (.cells #[.string { data := #[] }, .int .i64 0, .int .i64 0, .slice none 0 0] 26) := ⟨_, rfl⟩
  have b0 : Below w.heap.size w w0 := by rw [hw0]; exact made_below _ _ (Below.refl _ _)
  have CR : Cells w0 w.heap.size #[.string { data := #[] }, .int .i64 0, .int .i64 0, .slice none 0 0] := by rw [hw0]; exact Cells.made _ _ _
  replace hw0 : Hid (w.alloc (.cells #[.string { data := #[] }, .int .i64 0, .int .i64 0, .slice none 0 0] 26) = w0) := hw0.symm
  go_enter Try.func17, Try.ntmps17
  go_wp2_with (rw [hw0.out])
  obtain ⟨R, hR⟩ : ∃ R, R = w.heap.size := ⟨_, rfl⟩
  rw [← hR] at CR ⊢
  have hRw : w.heap.size ≤ R ∧ R < w0.heap.size := ⟨by omega, CR.1⟩
  clear hw0 hR
  refine (l1New_any p n c xs _ hn hx (in_below hb b0) hr).mono ?_
  rintro e w1 ⟨a, rfl, ha, ha1, hc1, b1⟩
  have k1 := below_on b0 b1
  have z1 := b1.size
  replace CR := CR.on b1
  go_wp2_with (fail)
  refine (l13DrawItem_any a p n c xs _ hc1).mono ?_
  rintro e w3 ⟨x, rfl, hxs, hxn, ox, hc3, g3⟩
  have k3 := below_cur k1 g3 (by omega)
  have z2 := k1.size
  replace CR := CR.grown g3 (fun e => by simp only [Option.some.injEq] at e; omega)
  obtain ⟨Y, hY, ⟨u0, y0⟩, f0, ⟨u1, y1⟩, f1, ⟨u2, y2⟩, f2, ⟨u3, y3⟩, f3, q0, q1, q2', q3, hszY, hgY⟩ := itemStore CR rfl x.s x.t x.d x.p x.n x.c
  have kY : Below w.heap.size w Y := k3.grown hgY.out k3.size (fun j hj => by cases hj; exact hRw.1)
  have oY : Own 5 Y w.heap.size Y.heap.size x.slice x.n x.xs := Own.wide (ox.keptLow hgY.out (by omega)) (by omega) hgY.out.size
  clear hgY ox CR g3 hc3
  go_wp2_with (rw [hY.out])
  (try simp only [Exit.inBlock, Exit.then])
  refine bodyPost_ret (v := .agg #[.string x.s, .int .i64 x.t, .int .i64 x.d, .slice x.p x.n x.c]) ?_ rfl ⟨x, rfl, hxs, hxn, oY, kY⟩
  simp only [results, Try.f17]
  go_simp

theorem dPut (p : Option Addr) (n c : Nat) (xs : List Int) (w : World) (hn : n ≤ 1048576) (hx : xs.length = n) (hb : BytesIn w p n xs) (hr : ∀ x ∈ xs, 0 ≤ x ∧ x < 256) :
    Calls Try.prog 7 #[.slice p n c] w fun e w' => ∃ (q : Option Addr) (j cap : Nat) (its : List ItA) (x : ItA), e = .returned (.tuple #[.slice q j cap, .agg #[.string x.s, .int .i64 x.t, .int .i64 x.d, .slice x.p x.n x.c]]) ∧ j ≤ 9 ∧ x.s.size ≤ 16 ∧ x.n ≤ 6 ∧ OwnItems w' w.heap.size w'.heap.size (.slice q j cap) j its ∧ Drawn its ∧ Own 5 w' w.heap.size w'.heap.size x.slice x.n x.xs ∧ Below w.heap.size w w' := by
  obtain ⟨w0, hw0⟩ : ∃ w0, w0 = w.alloc (.cells #[.string { data := #[] }, .int .i64 0, .int .i64 0, .slice none 0 0] 26) := ⟨_, rfl⟩
  have b0 : Below w.heap.size w w0 := by rw [hw0]; exact made_below _ _ (Below.refl _ _)
  have CR : Cells w0 w.heap.size #[.string { data := #[] }, .int .i64 0, .int .i64 0, .slice none 0 0] := by rw [hw0]; exact Cells.made _ _ _
  replace hw0 : Hid (w.alloc (.cells #[.string { data := #[] }, .int .i64 0, .int .i64 0, .slice none 0 0] 26) = w0) := hw0.symm
  go_enter Try.func7, Try.ntmps7
  go_wp2_with (rw [hw0.out])
  obtain ⟨R, hR⟩ : ∃ R, R = w.heap.size := ⟨_, rfl⟩
  rw [← hR] at CR ⊢
  have hRw : w.heap.size ≤ R ∧ R < w0.heap.size := ⟨by omega, CR.1⟩
  clear hw0 hR
  refine (l1New_any p n c xs _ hn hx (in_below hb b0) hr).mono ?_
  rintro e w1 ⟨a, rfl, ha, ha1, hc1, b1⟩
  have k1 := below_on b0 b1
  have z1 := b1.size
  replace CR := CR.on b1
  go_wp2_with (fail)
  refine (l13Draw_any a p n c xs _ hc1).mono ?_
  rintro e w2 ⟨q, j, cap, its, rfl, hj, hO, hD, hc2, g2⟩
  have k2 := below_cur k1 g2 (by omega)
  have zz := g2.size
  replace CR := CR.grown g2 (fun e => by simp only [Option.some.injEq] at e; omega)
  go_wp2_with (fail)
  refine (l13DrawItem_any a p n c xs _ hc2).mono ?_
  rintro e w3 ⟨x, rfl, hxs, hxn, ox, hc3, g3⟩
  have k3 := below_cur k2 g3 (by omega)
  have z2 := k2.size
  replace CR := CR.grown g3 (fun e => by simp only [Option.some.injEq] at e; omega)
  obtain ⟨Y, hY, ⟨u0, y0⟩, f0, ⟨u1, y1⟩, f1, ⟨u2, y2⟩, f2, ⟨u3, y3⟩, f3, q0, q1, q2', q3, hszY, hgY⟩ := itemStore CR rfl x.s x.t x.d x.p x.n x.c
  have kY : Below w.heap.size w Y := k3.grown hgY.out k3.size (fun j hj => by cases hj; exact hRw.1)
  have oY : Own 5 Y w.heap.size Y.heap.size x.slice x.n x.xs := Own.wide (ox.keptLow hgY.out (by omega)) (by omega) hgY.out.size
  have hO3 := hO.curs g3 ha1
  have hOY : OwnItems Y w.heap.size Y.heap.size (.slice q j cap) j its := (hO3.keptLow hgY.out (by omega)).wide (by omega) (Nat.le_trans g3.size hgY.out.size)
  clear hgY ox CR g3 hc3 hO hO3
  go_wp2_with (rw [hY.out])
  (try simp only [Exit.inBlock, Exit.then])
  refine bodyPost_ret (v := .tuple #[.slice q j cap, .agg #[.string x.s, .int .i64 x.t, .int .i64 x.d, .slice x.p x.n x.c]]) ?_ rfl ⟨q, j, cap, its, x, rfl, hj, hxs, hxn, hOY, hD, oY, kY⟩
  simp only [results, Try.f7]
  go_simp

end Go.Proofs.Ytkdbcplcpcdnbaa

namespace Go.Proofs.Ytkdbcplcpcdnbaa
open Go.RowKit
set_option maxRecDepth 100000

theorem ofR_count (s : ByteArray) (its : List ItA) (k : Nat) : (ofR s ((its.zipIdx k).map fun z => (⟨(z.2 : Int), z.1⟩ : PIt))).length = cntI s its := by
  induction its generalizing k with
  | nil => rfl
  | cons x r ih =>
    have := ih (k + 1)
    simp only [ofR, cntI, List.zipIdx_cons, List.map_cons, List.filter_cons, List.countP_cons] at *
    by_cases e : x.s = s
    · simp [e, this]
    · simp [e, this]

set_option maxHeartbeats 4000000 in
theorem implOf_any (p : Option Addr) (n c : Nat) (its : List ItA) (s : ByteArray) (w : World) (hn : n ≤ 1048576) (hl : its.length = n) (h : ItemsIn w p n its) (hs : ∀ x ∈ its, x.s.size ≤ 1048576) (hss : s.size ≤ 1048576) :
    Calls Try.prog 21 #[.slice p n c, .string s] w fun e w' => e = .returned (.int .i64 (cntI s its)) ∧ Below w.heap.size w w' := by
  have hcn : (ofR s (plL its)).length = cntI s its := ofR_count s its 0
  go_enter Try.func21, Try.ntmps21
  go_wp2_with (fail)
  refine (shelved_any p n c its _ hn hl h hs).mono ?_
  rintro z w1 ⟨S, rfl, ⟨B, nn, m, hC, hlo, hnN, hR⟩, b1⟩
  have hrow := hR.row s
  have hlk := hR.map.look s hss
  have l0 : w1.cell? ⟨S, 0, none⟩ = some (.map (some B)) := (hC.2 0).1
  obtain ⟨q, cc, hv⟩ : ∃ q cc, (m s).getD (.slice none 0 0) = .slice q (ofR s (plL its)).length cc := owns_form hrow
  rw [hv, hcn] at hlk
  clear hR hC hrow hv hcn h
  go_wp2_with (fail)
  go_ret
  exact ⟨rfl, b1⟩

end Go.Proofs.Ytkdbcplcpcdnbaa

namespace Go.Proofs.Ytkdbcplcpcdnbaa
open Go.RowKit
set_option maxRecDepth 100000

theorem big_small (p : Option Addr) (n c : Nat) (w : World) (hn : n ≤ 1048576) : Calls Try.prog 6 #[.slice p n c] w fun e w' => e = .returned (.bool false) ∧ Below w.heap.size w w' := by
  have hd : decide ((1048576 : Int) < (n : Int)) = false := by simp; omega
  go_enter Try.func6, Try.ntmps6
  go_wp2
  go_ret
  refine ⟨?_, Below.refl _ _⟩
  first | rfl | (congr 2)

theorem big_great (p : Option Addr) (n c : Nat) (w : World) (hn : ¬ n ≤ 1048576) : Calls Try.prog 6 #[.slice p n c] w fun e w' => e = .returned (.bool true) ∧ Below w.heap.size w w' := by
  have hd : (1048576 : Int) < (n : Int) := by omega
  go_enter Try.func6, Try.ntmps6
  go_wp2
  go_ret
  exact ⟨by simp, Below.refl _ _⟩

theorem in_prefix {w : World} {p : Option Addr} {n m : Nat} {xs : List Int} (h : BytesIn w p n xs) (hm : m ≤ n) : BytesIn w p m (xs.take m) := by
  intro h0
  obtain ⟨b, o, rfl, hc⟩ := h (by omega)
  refine ⟨b, o, rfl, fun i hi => ?_⟩
  rw [hc i (by omega)]
  simp [hi]

end Go.Proofs.Ytkdbcplcpcdnbaa
