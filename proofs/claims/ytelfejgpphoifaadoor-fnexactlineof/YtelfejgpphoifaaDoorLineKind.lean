/-
  A line's kinds, and whether it is right, by the program and by the specification. Conditions: lengths that a law hands over, bytes that lie there.
-/
import Derived.Test.YtelfejgpphoifaaDoorLine
import Derived.Test.YtelfejgpphoifaaDoorItemOk
import Derived.Test.YtelfejgpphoifaaDoorPlainI
import Derived.Test.YtelfejgpphoifaaDoorSame
import Derived.Test.YtelfejgpphoifaaDoorFreshAny
import Derived.Deep.RegionHeld3
namespace Go.Proofs.YtelfejgpphoifaaDoor
open Go.RowKit
set_option maxRecDepth 100000

def lnB (kd : Int) (s : ByteArray) (t d : Int) (n : Nat) : Bool :=
  if kd = 1 then itB s t d n else if kd = 2 then rtB s && (decide (t = 0) && (decide (d = 0) && decide (n = 0)))
  else if kd = 3 then decide (s = ByteArray.empty) && (decide (t = 0) && (decide (0 ≤ d ∧ d ≤ 100000) && decide (n = 0))) else false

theorem ofKind1 (s : ByteArray) (t d : Int) (p : Option Addr) (n c : Nat) (w : World) :
    Calls Tryd.prog 28 #[.agg #[.int .i64 1, .string s, .int .i64 t, .int .i64 d, .slice p n c]] w fun e w' => e = .returned (.iface 69 (.agg #[.string s, .int .i64 t, .int .i64 d, .slice p n c])) ∧ Below w.heap.size w w' := by
  have kA : ∀ o, Below w.heap.size w (w.alloc o) := fun o => made_below _ _ (Below.refl _ _)
  go_enter Tryd.func28, Tryd.ntmps28
  go_wp2_with (fail)
  go_ret
  exact ⟨rfl, kA _⟩
theorem ofKind2 (s : ByteArray) (t d : Int) (p : Option Addr) (n c : Nat) (w : World) :
    Calls Tryd.prog 28 #[.agg #[.int .i64 2, .string s, .int .i64 t, .int .i64 d, .slice p n c]] w fun e w' => e = .returned (.iface 71 (.agg #[.string s])) ∧ Below w.heap.size w w' := by
  have kA : ∀ o, Below w.heap.size w (w.alloc o) := fun o => made_below _ _ (Below.refl _ _)
  go_enter Tryd.func28, Tryd.ntmps28
  go_wp2_with (fail)
  go_ret
  exact ⟨rfl, kA _⟩
theorem ofKind3 (s : ByteArray) (t d : Int) (p : Option Addr) (n c : Nat) (w : World) :
    Calls Tryd.prog 28 #[.agg #[.int .i64 3, .string s, .int .i64 t, .int .i64 d, .slice p n c]] w fun e w' => e = .returned (.iface 73 (.agg #[.int .i64 d])) ∧ Below w.heap.size w w' := by
  have kA : ∀ o, Below w.heap.size w (w.alloc o) := fun o => made_below _ _ (Below.refl _ _)
  go_enter Tryd.func28, Tryd.ntmps28
  go_wp2_with (fail)
  go_ret
  exact ⟨rfl, kA _⟩
theorem ofKindNo (kd : Int) (s : ByteArray) (t d : Int) (p : Option Addr) (n c : Nat) (w : World) (h1 : kd ≠ 1) (h2 : kd ≠ 2) (h3 : kd ≠ 3) :
    Calls Tryd.prog 28 #[.agg #[.int .i64 kd, .string s, .int .i64 t, .int .i64 d, .slice p n c]] w fun e w' => e = .returned .nilIface ∧ Below w.heap.size w w' := by
  have kA : ∀ o, Below w.heap.size w (w.alloc o) := fun o => made_below _ _ (Below.refl _ _)
  have q1 : (kd == 1) = false := by simp [h1]
  have q2 : (kd == 2) = false := by simp [h2]
  have q3 : (kd == 3) = false := by simp [h3]
  clear h1 h2 h3
  go_enter Tryd.func28, Tryd.ntmps28
  go_wp2_with (fail)
  go_ret
  exact ⟨rfl, kA _⟩

theorem putFits (s : ByteArray) (t d : Int) (p : Option Addr) (n c : Nat) (w : World) (hs : s.size ≤ 1048576) :
    Calls Tryd.prog 73 #[.agg #[.string s, .int .i64 t, .int .i64 d, .slice p n c]] w fun e w' => e = .returned (.bool (itB s t d n)) ∧ Below w.heap.size w w' := by
  go_enter Tryd.func73, Tryd.ntmps73
  go_wp2_with (fail)
  refine (implItemOk_any s t d p n c _ hs).mono ?_
  rintro z w1 ⟨rfl, b1⟩
  have k1 := made_below _ _ b1
  go_wp2_with (fail)
  go_ret
  exact ⟨rfl, k1⟩
theorem takeFits (s : ByteArray) (w : World) (hs : s.size ≤ 1048576) :
    Calls Tryd.prog 77 #[.agg #[.string s]] w fun e w' => e = .returned (.bool (rtB s)) ∧ Below w.heap.size w w' := by
  go_enter Tryd.func77, Tryd.ntmps77
  go_wp2_with (fail)
  refine (routeOk_any s _ hs).mono ?_
  rintro z w1 ⟨rfl, b1⟩
  have k1 := made_below _ _ b1
  go_wp2_with (fail)
  go_ret
  exact ⟨rfl, k1⟩
theorem timeFits (d : Int) (w : World) :
    Calls Tryd.prog 78 #[.agg #[.int .i64 d]] w fun e w' => e = .returned (.bool (decide (0 ≤ d ∧ d ≤ 100000))) ∧ Below w.heap.size w w' := by
  have kA : ∀ o, Below w.heap.size w (w.alloc o) := fun o => made_below _ _ (Below.refl _ _)
  have D := fun X => dueOk_any d X
  generalize decide (0 ≤ d ∧ d ≤ 100000) = R at D ⊢
  go_enter Tryd.func78, Tryd.ntmps78
  go_wp2_with (fail)
  refine (D _).mono ?_
  rintro z w1 ⟨rfl, rfl⟩
  go_wp2_with (fail)
  go_ret
  exact ⟨rfl, kA _⟩

theorem cellsDrew {w : World} {g : Nat} {A : Array Value} (h : Cells w g A) : Cells w.drew g A := h.on (Below.refl _ _).drew
theorem cellsAlloc {w : World} {g : Nat} {A : Array Value} (h : Cells w g A) (o : Obj) : Cells (w.alloc o) g A := h.on (made_below _ _ (Below.refl _ _))
theorem below_allocI {a w : World} (h : Below a.heap.size a w) (o : Obj) : Below a.heap.size a (w.alloc o) := h.alloc h.size o
theorem size_allocI (w : World) (o : Obj) : (w.alloc o).heap.size = w.heap.size + 1 := by simp
set_option maxHeartbeats 4000000 in
theorem l14Item_any (kd : Int) (s : ByteArray) (t d : Int) (p : Option Addr) (n c : Nat) (xs : List Int) (w : World) (hn : n ≤ 1048576) (hx : xs.length = n) (h : BytesIn w p n xs) :
    Calls Tryd.prog 34 #[.agg #[.int .i64 kd, .string s, .int .i64 t, .int .i64 d, .slice p n c]] w fun z w' => ∃ p' c', z = .returned (.agg #[.string s, .int .i64 t, .int .i64 d, .slice p' n c']) ∧
      Own 5 w' w.heap.size w'.heap.size (.slice p' n c') n xs ∧ Below w.heap.size w w' := by
  obtain ⟨i0, hi, hz0, hz1, hz2⟩ := info_parts infoByte
  obtain ⟨W, hW⟩ : ∃ W, W = (w.alloc (.cells #[.int .i64 kd, .string s, .int .i64 t, .int .i64 d, .slice p n c] 24)).alloc (.cells #[.string { data := #[] }, .int .i64 0, .int .i64 0, .slice none 0 0] 75) := ⟨_, rfl⟩
  have kW : Below w.heap.size w W := by rw [hW]; exact made_below _ _ (made_below _ _ (Below.refl _ _))
  have zW : W.heap.size = w.heap.size + 1 + 1 := by rw [hW]; simp
  have C2 : Cells W w.heap.size #[.int .i64 kd, .string s, .int .i64 t, .int .i64 d, .slice p n c] := by rw [hW]; exact (Cells.made w _ _).on (made_below _ _ (Below.refl _ _))
  have C1 : Cells W (w.heap.size + 1) #[.string { data := #[] }, .int .i64 0, .int .i64 0, .slice none 0 0] := by
    have := Cells.made (w.alloc (.cells #[.int .i64 kd, .string s, .int .i64 t, .int .i64 d, .slice p n c] 24)) #[.string { data := #[] }, .int .i64 0, .int .i64 0, .slice none 0 0] 75
    rw [size_allocI] at this
    rw [hW]
    exact this
  have hin := in_below h kW
  replace hW : Hid ((w.alloc (.cells #[.int .i64 kd, .string s, .int .i64 t, .int .i64 d, .slice p n c] 24)).alloc (.cells #[.string { data := #[] }, .int .i64 0, .int .i64 0, .slice none 0 0] 75) = W) := hW.symm
  have HK : ∀ V, Cells V w.heap.size #[.int .i64 kd, .string s, .int .i64 t, .int .i64 d, .slice p n c] → V.cell? ⟨w.heap.size, 1, none⟩ = some (.string s) ∧ V.cell? ⟨w.heap.size, 2, none⟩ = some (.int .i64 t) ∧ V.cell? ⟨w.heap.size, 3, none⟩ = some (.int .i64 d) ∧ V.cell? ⟨w.heap.size, 4, none⟩ = some (.slice p n c) := fun V hV => ⟨(hV.2 1).1, (hV.2 2).1, (hV.2 3).1, (hV.2 4).1⟩
  replace zW : Hid (W.heap.size = w.heap.size + 1 + 1) := zW
  clear h
  go_enter Tryd.func34, Tryd.ntmps34
  go_wp2_with (rw [hW.out])
  go_region_held3 (fun w' => w'.cell? ⟨w.heap.size, 1, none⟩ = some (.string s) ∧ w'.cell? ⟨w.heap.size, 2, none⟩ = some (.int .i64 t) ∧ w'.cell? ⟨w.heap.size, 3, none⟩ = some (.int .i64 d) ∧ w'.cell? ⟨w.heap.size, 4, none⟩ = some (.slice p n c)) (exact HK _ (by repeat (with_reducible (first | exact C2 | exact E2 | refine cellsDrew ?_ | refine cellsAlloc ?_ _ | refine Cells.other ?_ _ (by show w.heap.size ≠ w.heap.size + 1; omega))))) (first | (refine step_fresh_any (w0 := W) (lo := W.heap.size) hi hz0 hz1 hz2 (.tmp 9) (.tmp 11) 22 Tryd.underlying22 (by rfl) (by rfl) (by rfl) (by rfl) (by repeat (with_reducible (first | exact emp_made _ _ rfl | refine emp_alloc ?_ _ | refine emp_drew ?_))) (in_below hin (by repeat (with_reducible (first | exact Below.refl _ _ | refine below_drewL ?_ | refine below_allocI ?_ _)))) hx (by omega) (by repeat (with_reducible (first | exact Below.refl _ _ | refine below_drewL ?_ | refine below_allocI ?_ _))) (by omega) ?_; intro g cap w1 r1 ge1 lt1 le1 b1; have D0 := C1.on b1; have E2 := C2.on b1; have q0 : (w1).cell? ⟨w.heap.size + 1, 0, none⟩ = some (.string ByteArray.empty) := (D0.2 0).1; have u0 := (D0.2 0).2; have D1 := D0.set 0 (by simp) (.string s); have q1 : (w1.setCell ⟨w.heap.size + 1, 0, none⟩ (.string s)).cell? ⟨w.heap.size + 1, 1, none⟩ = some (.int .i64 0) := (D1.2 1).1; have u1 := (D1.2 1).2; have D2 := D1.set 1 (by simp) (.int .i64 t); have q2 : ((w1.setCell ⟨w.heap.size + 1, 0, none⟩ (.string s)).setCell ⟨w.heap.size + 1, 1, none⟩ (.int .i64 t)).cell? ⟨w.heap.size + 1, 2, none⟩ = some (.int .i64 0) := (D2.2 2).1; have u2 := (D2.2 2).2; have D3 := D2.set 2 (by simp) (.int .i64 d); have q3 : (((w1.setCell ⟨w.heap.size + 1, 0, none⟩ (.string s)).setCell ⟨w.heap.size + 1, 1, none⟩ (.int .i64 t)).setCell ⟨w.heap.size + 1, 2, none⟩ (.int .i64 d)).cell? ⟨w.heap.size + 1, 3, none⟩ = some (.slice none 0 0) := (D3.2 3).1; have u3 := (D3.2 3).2; have D4 := D3.set 3 (by simp) (.slice (some ⟨g, 0, none⟩) n cap)))
  all_goals
    have hsz : ((((w1.setCell ⟨w.heap.size + 1, 0, none⟩ (.string s)).setCell ⟨w.heap.size + 1, 1, none⟩ (.int .i64 t)).setCell ⟨w.heap.size + 1, 2, none⟩ (.int .i64 d)).setCell ⟨w.heap.size + 1, 3, none⟩ (.slice (some ⟨g, 0, none⟩) n cap)).heap.size = w1.heap.size := by simp
    have zz := zW.out
    go_wp2_with (fail)
    have o1 := r1.own
    have o2 := (((o1.set_below (a := ⟨w.heap.size + 1, 0, none⟩) (by show w.heap.size + 1 < _; omega) (.string s)).set_below (a := ⟨w.heap.size + 1, 1, none⟩) (by show w.heap.size + 1 < _; omega) (.int .i64 t)).set_below (a := ⟨w.heap.size + 1, 2, none⟩) (by show w.heap.size + 1 < _; omega) (.int .i64 d)).set_below (a := ⟨w.heap.size + 1, 3, none⟩) (by show w.heap.size + 1 < _; omega) (.slice (some ⟨g, 0, none⟩) n cap)
    have kZ : Below w.heap.size w ((((w1.setCell ⟨w.heap.size + 1, 0, none⟩ (.string s)).setCell ⟨w.heap.size + 1, 1, none⟩ (.int .i64 t)).setCell ⟨w.heap.size + 1, 2, none⟩ (.int .i64 d)).setCell ⟨w.heap.size + 1, 3, none⟩ (.slice (some ⟨g, 0, none⟩) n cap)) := ((((below_on kW b1).setCell (by show w.heap.size ≤ w.heap.size + 1; omega) _).setCell (by show w.heap.size ≤ w.heap.size + 1; omega) _).setCell (by show w.heap.size ≤ w.heap.size + 1; omega) _).setCell (by show w.heap.size ≤ w.heap.size + 1; omega) _
    have e0 := (D4.2 0).1
    have e1 := (D4.2 1).1
    have e2 := (D4.2 2).1
    have e3 := (D4.2 3).1
    refine bodyPost_ret (v := .agg #[.string s, .int .i64 t, .int .i64 d, .slice (some ⟨g, 0, none⟩) n cap]) ?_ rfl ⟨_, _, rfl, ?_, kZ⟩
    · simp only [results, Tryd.f34]
      go_simp
    · rw [hsz]
      exact ⟨owns_mono o2.1 (by omega), fun k hk => by cases hk; exact lt1⟩

end Go.Proofs.YtelfejgpphoifaaDoor
