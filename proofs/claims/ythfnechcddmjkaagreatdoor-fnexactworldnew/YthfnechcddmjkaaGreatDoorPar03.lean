/-
  The program's copied: a copy of bytes. Condition: bytes that lie there.
  The cells of a block of one's own: what lies there, behind stores into it and behind what else is done. No condition beyond each fact's own.
  Whether there is a key of a seed and an epoch, and a number within its limits, in the program and in the specification. No condition.
  The laws' own functions of an item: its size, a copy, whether two are the same; conditions: bytes that lie there.
  The laws' own functions of a line: its size, a copy, whether two are the same; conditions: bytes that lie there.
  Whether an item is right, as the specification and the program tell it; conditions: a route that there can be.
  'append([]byte{}, xs...)' in a region that draws its order: the literal's row and the new one. Conditions: bytes that lie there, at least one.
-/
import Derived.Test.YthfnechcddmjkaaGreatDoorPar02
import Derived.Test.YthfnechcddmjkaaGreatDoorPar01
import Derived.Laws.CopyOwn
import Derived.Deep.AppendLies
namespace Go.Proofs.YthfnechcddmjkaaGreatDoor
open Go.RowKit
set_option maxRecDepth 100000

theorem heap_made (w : World) (o : Obj) : (w.alloc o).heap[w.heap.size]? = some o := by
  show (w.heap.push o)[w.heap.size]? = some o
  simp
theorem made_below (w : World) (o : Obj) {w' : World} (b : Below (w.alloc o).heap.size (w.alloc o) w') : Below w.heap.size w w' :=
  ((Below.refl _ _).alloc (Nat.le_refl _) o).trans (b.mono (by simp))

theorem makeM (Z : Nat) (hZ : Z ≤ 16777216) (W : World) : (Instr.makeSlice 22 (.int .i64 (Z : Int)) (.int .i64 (Z : Int))).run Tryz.prog W = .ok (.slice (some ⟨W.heap.size, 0, none⟩) Z Z) (W.alloc (.cells (madeCells #[.int .u8 0] Z) 5)) := by
  obtain ⟨i0, hi, hz0, hz1, hz2⟩ := info_parts infoByte
  have := run_makeSlice (P := Tryz.prog) W 22 5 i0 (.int .u8 0) Tryz.underlying22 hi hz0 .i64 .i64 Z Z (by omega) (by omega) (by rw [hz1]; simp; omega) (by rw [hz2]; omega) (by omega)
  simpa [hz1, Value.cells] using this
def noughtV (Z : Nat) : List Value := List.replicate Z (.int .u8 0)
theorem noughtV_length (Z : Nat) : (noughtV Z).length = Z := by simp [noughtV]
theorem madeM (Z : Nat) : madeCells #[Value.int .u8 0] Z = (noughtV Z).toArray := by
  have e : (madeCells #[Value.int .u8 0] Z).toList = noughtV Z := toList_madeCells_one _ _
  rw [← e]
theorem row_own {w : World} {lo g n : Nat} {xs : List Int} (hg : w.heap[g]? = some (.cells (xs.map (Value.int .u8)).toArray 5 (0, 0))) (hlo : lo ≤ g) (hx : xs.length = n) (hn : n ≤ 1099511627) : Own 5 w lo w.heap.size (.slice (some ⟨g, 0, none⟩) n n) n xs :=
  .of ⟨by simp [hx], .inr ⟨g, n, _, rfl, hlo, hg, Nat.le_refl _, by unfold maxLen; omega, by simp [hx], by simp [hx, List.take_of_length_le]⟩⟩
theorem in_cells {w : World} {p : Option Addr} {n : Nat} {xs : List Int} (h : BytesIn w p n xs) (hx : xs.length = n) (h0 : 0 < (xs.map (Value.int .u8)).length) : ∃ ad, p = some ad ∧ ∀ j v, (xs.map (Value.int .u8))[j]? = some v → w.cell? (ad.add j) = some v := by
  obtain ⟨b, o, rfl, hc⟩ := h (by simpa [hx] using h0)
  refine ⟨⟨b, o, none⟩, rfl, fun j v hv => ?_⟩
  rw [List.getElem?_map] at hv
  obtain ⟨u, hu, rfl⟩ := Option.map_eq_some_iff.1 hv
  have hj := (List.getElem?_eq_some_iff.1 hu).1
  rw [Addr.add_lit, hc j (by omega), List.getD_eq_getElem?_getD, hu]
  rfl
theorem u8_one (xs : List Int) : ∀ v ∈ xs.map (Value.int .u8), v.oneCell' = true := fun v hv => by
  obtain ⟨u, _, rfl⟩ := List.mem_map.1 hv
  rfl

set_option maxHeartbeats 2000000 in
theorem copied_any (p : Option Addr) (n c : Nat) (xs : List Int) (w : World) (hn : n ≤ 1048576) (hx : xs.length = n) (h : BytesIn w p n xs) :
    Calls Tryz.prog 62 #[.slice p n c] w fun e w' => ∃ p' c', e = .returned (.slice p' n c') ∧ Own 5 w' w.heap.size w'.heap.size (.slice p' n c') n xs ∧ Below w.heap.size w w' := by
  obtain ⟨i0, hi, hz0, hz1, hz2⟩ := info_parts infoByte
  have hs5 : (Tryz.prog.info? 5).map (·.size) = some 1 := by rw [hi]; simp [hz1]
  have hmk := fun W => makeM n (by omega) W
  rw [madeM] at hmk
  have ba : ∀ o, Below w.heap.size w (w.alloc o) := fun o => made_below _ _ (Below.refl _ _)
  have hrow : (w.alloc (.cells (noughtV n).toArray 5)).heap[w.heap.size]? = some (.cells (noughtV n).toArray 5 (0, 0)) := heap_made _ _
  obtain ⟨Z, hZ⟩ : ∃ Z, Z = noughtV n := ⟨_, rfl⟩
  have hZl : Z.length = n := by rw [hZ, noughtV_length]
  rw [← hZ] at hmk hrow
  obtain ⟨V, hV⟩ : ∃ V, V = xs.map (Value.int .u8) := ⟨_, rfl⟩
  have hVl : V.length = n := by rw [hV]; simpa using hx
  have hpos : ∀ X, Below w.heap.size w X → 0 < V.length → ∃ ad, p = some ad ∧ ∀ j v, V[j]? = some v → X.cell? (ad.add j) = some v := fun X hX h0 => by rw [hV] at h0 ⊢; exact in_cells (in_below h hX) hx h0
  have hone : ∀ v ∈ V, v.oneCell' = true := by rw [hV]; exact u8_one xs
  have hfin : Hid (splice Z 0 V = V) := by
    show splice Z 0 V = V
    rw [splice, List.take_zero, List.nil_append, Nat.zero_add, List.drop_of_length_le (by omega), List.append_nil]
  replace hV : Hid (V = xs.map (Value.int .u8)) := hV
  clear hZ hi hz0 hz1 hz2 h
  go_enter Tryz.func62, Tryz.ntmps62
  go_wp2_with (refine wpList_copy_splice (by rfl) (.tmp 7) (.tmp 8) 22 22 (by rfl) 5 Tryz.underlying22 hs5 (some ⟨w.heap.size, 0, none⟩) p n n n c (by rfl) (by rfl) w.heap.size 0 Z 5 hrow V (by rw [hVl]; exact (Nat.min_self n).symm) (fun h0 => ⟨rfl, hpos _ (ba _) h0⟩) (by omega) hone w.heap.size w (ba _) (Nat.le_refl _) ?_; intro w2 hg2 hb2)
  go_ret
  have hg3 := hg2.out
  rw [hfin.out, hV.out] at hg3
  exact ⟨_, _, rfl, row_own hg3 (Nat.le_refl _) hx (by omega), hb2⟩

end Go.Proofs.YthfnechcddmjkaaGreatDoor

namespace Go.Proofs.YthfnechcddmjkaaGreatDoor
open Go.RowKit
set_option maxRecDepth 100000

def Cells (w : World) (g : Nat) (A : Array Value) : Prop := g < w.heap.size ∧ ∀ i, w.cell? ⟨g, i, none⟩ = A[i]? ∧ w.frozen? ⟨g, i, none⟩ = false
theorem Cells.made (w : World) (A : Array Value) (T : TypeId) : Cells (w.alloc (.cells A T)) w.heap.size A := by
  have e := heap_made w (.cells A T)
  refine ⟨by simp, fun i => ⟨by simp only [World.cell?, e]; rfl, ?_⟩⟩
  simp only [World.frozen?, e]
  simp
theorem Cells.on {w w' : World} {g : Nat} {A : Array Value} (h : Cells w g A) (b : Below w.heap.size w w') : Cells w' g A :=
  ⟨Nat.lt_of_lt_of_le h.1 b.size, fun i => ⟨(b.cell h.1).trans (h.2 i).1, (b.frozen h.1).trans (h.2 i).2⟩⟩
theorem Cells.other {w : World} {g : Nat} {A : Array Value} (h : Cells w g A) {a : Addr} (v : Value) (ha : g ≠ a.block) : Cells (w.setCell a v) g A := by
  have e := Below.heap_setCell w a v g ha
  refine ⟨by simpa using h.1, fun i => ⟨?_, ?_⟩⟩
  · rw [← (h.2 i).1]; exact World.cell?_of_block (w := w) e
  · rw [← (h.2 i).2]; exact World.frozen?_of_block (w := w) e
theorem Cells.set {w : World} {g : Nat} {A : Array Value} (h : Cells w g A) (k : Nat) (hk : k < A.size) (v : Value) : Cells (w.setCell ⟨g, k, none⟩ v) g (A.setIfInBounds k v) := by
  refine ⟨by simpa using h.1, fun i => ⟨?_, ?_⟩⟩
  · by_cases e : k = i
    · subst e
      rw [World.cell?_setCell_same w _ _ (by rw [(h.2 k).1]; exact Array.getElem?_eq_getElem hk)]
      simp [hk]
    · rw [World.cell?_setCell_other _ _ _ _ (by intro x; simp only [Addr.mk.injEq] at x; omega), (h.2 i).1, Array.getElem?_setIfInBounds_ne e]
  · rw [World.frozen?_setCell]; exact (h.2 i).2
theorem Cells.grown {w w' : World} {g : Nat} {A : Array Value} {r : Option Nat} (h : Cells w g A) (hg : w.grownBy w' r) (hr : some g ≠ r) : Cells w' g A := by
  have e := hg.block g h.1 hr
  exact ⟨Nat.lt_of_lt_of_le h.1 hg.size, fun i => ⟨(World.cell?_of_block (w := w) e).trans (h.2 i).1, (World.frozen?_of_block (w := w) e).trans (h.2 i).2⟩⟩

theorem Cells.far {e' : Nat} {w w' : World} {g lo hi : Nat} {u : Value} {m : Nat} {ys : List Int} {A : Array Value} (h : Cells w g A) (hg : w.grownBy w' u.ownBlock) (hu : Own e' w lo hi u m ys) (hd : g < lo ∨ hi ≤ g) : Cells w' g A :=
  h.grown hg fun x => by have h1 := hu.2 g x.symm; have h2 := (hu.1.lt g x.symm).1; omega

theorem Own.set_below {e : Nat} {w : World} {lo hi : Nat} {v : Value} {n : Nat} {xs : List Int} (h : Own e w lo hi v n xs) {a : Addr} (ha : a.block < lo) (u : Value) : Own e (w.setCell a u) lo hi v n xs := ⟨ownsRow_setCell_below h.1 ha u, h.2⟩

theorem set_grown (w : World) (R i : Nat) (v : Value) : w.grownBy (w.setCell ⟨R, i, none⟩ v) (some R) := ⟨rfl, rfl, rfl, by simp [World.setCell], fun k _ hk => Below.heap_setCell _ _ _ k (fun e => hk (by rw [e]))⟩
theorem drew_grown (w : World) (r : Option Nat) : w.grownBy w.drew r := ⟨rfl, rfl, rfl, Nat.le_refl _, fun _ _ _ => rfl⟩

end Go.Proofs.YthfnechcddmjkaaGreatDoor

namespace Go.Proofs.YthfnechcddmjkaaGreatDoor
open Go.RowKit
set_option maxRecDepth 100000

def hasB (n : Nat) (e : Int) : Bool := decide (n = 32 ∧ 0 ≤ e ∧ e ≤ 40)
theorem hasB_yes {n : Nat} {e : Int} (h : n = 32 ∧ 0 ≤ e ∧ e ≤ 40) : hasB n e = true := decide_eq_true h
theorem hasB_no {n : Nat} {e : Int} (h : ¬ (n = 32 ∧ 0 ≤ e ∧ e ≤ 40)) : hasB n e = false := decide_eq_false h

theorem hasKeys_any (p : Option Addr) (n c : Nat) (e : Int) (w : World) :
    Calls Tryz.prog 102 #[.slice p n c, .int .i64 e] w fun r w' => r = .returned (.bool (hasB n e)) ∧ w' = w := by
  by_cases hn : n = 32
  · subst hn
    go_enter Tryz.func102, Tryz.ntmps102
    go_wp2
    all_goals
      go_ret
      refine ⟨?_, rfl⟩
      congr 2
      unfold hasB
      simp
      try omega
  · have hd : ((n : Int) == 32) = false := by simp; omega
    rw [hasB_no (fun h => hn h.1)]
    go_enter Tryz.func102, Tryz.ntmps102
    go_wp2
    go_ret
    exact ⟨rfl, rfl⟩

theorem l1In_any (n a b : Int) (w : World) :
    Calls Tryz.prog 51 #[.int .i64 n, .int .i64 a, .int .i64 b] w fun r w' => r = .returned (.bool (decide (a ≤ n ∧ n ≤ b))) ∧ w' = w := by
  go_enter Tryz.func51, Tryz.ntmps51
  go_wp2
  all_goals
    go_ret
    refine ⟨?_, rfl⟩
    congr 2
    simp
    try omega

end Go.Proofs.YthfnechcddmjkaaGreatDoor

namespace Go.Proofs.YthfnechcddmjkaaGreatDoor
open Go.RowKit
set_option maxRecDepth 100000

theorem str_ne {s s' : ByteArray} (h : s ≠ s') : (s.toList == s'.toList) = false := by
  rw [beq_eq_false_iff_ne]
  intro e
  rw [ByteArray.toList_eq, ByteArray.toList_eq] at e
  exact h (ByteArray.ext (Array.toList_inj.1 e))

def szI (s : ByteArray) (n : Nat) (l : Int) : Int := if (s.size : Int) + n ≤ l then l - s.size - n else -1

end Go.Proofs.YthfnechcddmjkaaGreatDoor

namespace Go.Proofs.YthfnechcddmjkaaGreatDoor
open Go.RowKit
set_option maxRecDepth 100000

end Go.Proofs.YthfnechcddmjkaaGreatDoor

namespace Go.Proofs.YthfnechcddmjkaaGreatDoor
open Go.RowKit
set_option maxRecDepth 100000

def rtB (s : ByteArray) : Bool := goodB s && decide (unN s = 8)

def itB (s : ByteArray) (t d : Int) (n : Nat) : Bool := rtB s && decide (0 ≤ t ∧ t ≤ 9) && decide (0 ≤ d ∧ d ≤ 100000) && decide (n ≤ 1560)

theorem in_any (x lo hi : Int) (X : World) : Calls Tryz.prog 51 #[.int .i64 x, .int .i64 lo, .int .i64 hi] X fun e w' => e = .returned (.bool (decide (lo ≤ x ∧ x ≤ hi))) ∧ w' = X := by
  by_cases h1 : lo ≤ x
  · by_cases h2 : x ≤ hi
    · rw [decide_eq_true ⟨h1, h2⟩]
      go_enter Tryz.func51, Tryz.ntmps51
      go_wp2_with (fail)
      go_ret
      exact ⟨rfl, rfl⟩
    · rw [decide_eq_false (fun k => h2 k.2)]
      go_enter Tryz.func51, Tryz.ntmps51
      go_wp2_with (fail)
      go_ret
      exact ⟨rfl, rfl⟩
  · rw [decide_eq_false (fun k => h1 k.1)]
    go_enter Tryz.func51, Tryz.ntmps51
    go_wp2_with (fail)
    go_ret
    exact ⟨rfl, rfl⟩

theorem dueOk_any (x : Int) (X : World) : Calls Tryz.prog 106 #[.int .i64 x] X fun e w' => e = .returned (.bool (decide (0 ≤ x ∧ x ≤ 100000))) ∧ w' = X := by
  by_cases h1 : 0 ≤ x
  · by_cases h2 : x ≤ 100000
    · rw [decide_eq_true ⟨h1, h2⟩]
      go_enter Tryz.func106, Tryz.ntmps106
      go_wp2_with (fail)
      go_ret
      exact ⟨rfl, rfl⟩
    · rw [decide_eq_false (fun k => h2 k.2)]
      go_enter Tryz.func106, Tryz.ntmps106
      go_wp2_with (fail)
      go_ret
      exact ⟨rfl, rfl⟩
  · rw [decide_eq_false (fun k => h1 k.1)]
    go_enter Tryz.func106, Tryz.ntmps106
    go_wp2_with (fail)
    go_ret
    exact ⟨rfl, rfl⟩

theorem routeOk_any (s : ByteArray) (w : World) (hs : s.size ≤ 1048576) : Calls Tryz.prog 123 #[.string s] w fun e w' => e = .returned (.bool (rtB s)) ∧ Below w.heap.size w w' := by
  have C := implUnhex_any s w hs
  obtain ⟨R, hR⟩ : ∃ R : Bool, R = rtB s := ⟨_, rfl⟩
  rw [← hR]
  replace hR : Hid (R = rtB s) := hR
  have hu : unN s ≤ 1048576 := by unfold unN; split <;> omega
  cases hg : goodB s
  · rw [hg] at C
    have hr : R = false := by rw [hR.out, rtB, hg]; rfl
    subst hr
    clear hR hg
    generalize unN s = m at C hu
    generalize unL s = ys at C
    go_enter Tryz.func123, Tryz.ntmps123
    go_wp2_with (fail)
    refine C.mono ?_
    rintro e w1 ⟨p, c, rfl, r1, b1⟩
    clear r1
    go_wp2_with (fail)
    go_ret
    exact ⟨rfl, b1⟩
  · rw [hg] at C
    have hr : R = decide (unN s = 8) := by rw [hR.out, rtB, hg]; rfl
    clear hR hg
    generalize unN s = m at C hu hr
    generalize unL s = ys at C
    by_cases h8 : m = 8
    · subst h8
      have hr' : R = true := by rw [hr]; rfl
      subst hr'
      clear hr
      go_enter Tryz.func123, Tryz.ntmps123
      go_wp2_with (fail)
      refine C.mono ?_
      rintro e w1 ⟨p, c, rfl, r1, b1⟩
      clear r1
      go_wp2_with (fail)
      go_ret
      exact ⟨rfl, b1⟩
    · have hr' : R = false := by rw [hr]; exact decide_eq_false h8
      subst hr'
      have h8' : ((m : Int) == 8) = false := by simp; omega
      clear hr h8
      go_enter Tryz.func123, Tryz.ntmps123
      go_wp2_with (fail)
      refine C.mono ?_
      rintro e w1 ⟨p, c, rfl, r1, b1⟩
      clear r1
      go_wp2_with (fail)
      go_ret
      exact ⟨rfl, b1⟩

theorem l13Route_any (s : ByteArray) (w : World) (hs : s.size ≤ 1048576) : Calls Tryz.prog 95 #[.string s] w fun e w' => e = .returned (.bool (rtB s)) ∧ Below w.heap.size w w' := by
  have C := specUnhex_any s w hs
  obtain ⟨R, hR⟩ : ∃ R : Bool, R = rtB s := ⟨_, rfl⟩
  rw [← hR]
  replace hR : Hid (R = rtB s) := hR
  have hu : unN s ≤ 1048576 := by unfold unN; split <;> omega
  cases hg : goodB s
  · rw [hg] at C
    have hr : R = false := by rw [hR.out, rtB, hg]; rfl
    subst hr
    clear hR hg
    generalize unN s = m at C hu
    generalize unL s = ys at C
    go_enter Tryz.func95, Tryz.ntmps95
    go_wp2_with (fail)
    refine C.mono ?_
    rintro e w1 ⟨p, c, rfl, r1, b1⟩
    clear r1
    go_wp2_with (fail)
    go_ret
    exact ⟨rfl, b1⟩
  · rw [hg] at C
    have hr : R = decide (unN s = 8) := by rw [hR.out, rtB, hg]; rfl
    clear hR hg
    generalize unN s = m at C hu hr
    generalize unL s = ys at C
    by_cases h8 : m = 8
    · subst h8
      have hr' : R = true := by rw [hr]; rfl
      subst hr'
      clear hr
      go_enter Tryz.func95, Tryz.ntmps95
      go_wp2_with (fail)
      refine C.mono ?_
      rintro e w1 ⟨p, c, rfl, r1, b1⟩
      clear r1
      go_wp2_with (fail)
      go_ret
      exact ⟨rfl, b1⟩
    · have hr' : R = false := by rw [hr]; exact decide_eq_false h8
      subst hr'
      have h8' : ((m : Int) == 8) = false := by simp; omega
      clear hr h8
      go_enter Tryz.func95, Tryz.ntmps95
      go_wp2_with (fail)
      refine C.mono ?_
      rintro e w1 ⟨p, c, rfl, r1, b1⟩
      clear r1
      go_wp2_with (fail)
      go_ret
      exact ⟨rfl, b1⟩

set_option maxHeartbeats 4000000 in
theorem implItemOk_any (s : ByteArray) (t d : Int) (p : Option Addr) (n c : Nat) (w : World) (hs : s.size ≤ 1048576) :
    Calls Tryz.prog 98 #[.agg #[.string s, .int .i64 t, .int .i64 d, .slice p n c]] w fun z w' => z = .returned (.bool (itB s t d n)) ∧ Below w.heap.size w w' := by
  have C := fun X => routeOk_any s X hs
  have D := fun X => dueOk_any d X
  obtain ⟨R, hR⟩ : ∃ R : Bool, R = itB s t d n := ⟨_, rfl⟩
  rw [← hR]
  replace hR : Hid (R = itB s t d n) := hR
  unfold itB at hR
  generalize rtB s = R0 at C hR
  generalize decide (0 ≤ d ∧ d ≤ 100000) = R1 at D hR
  have hM : ∀ o, Cells (w.alloc (.cells #[.string s, .int .i64 t, .int .i64 d, .slice p n c] o)) w.heap.size #[.string s, .int .i64 t, .int .i64 d, .slice p n c] := fun o => Cells.made _ _ _
  go_enter Tryz.func98, Tryz.ntmps98
  go_wp2_with (fail)
  refine (C _).mono ?_
  rintro z w1 ⟨rfl, b1⟩
  have k1 := made_below _ _ b1
  have C1 := (hM _).on b1
  clear b1 hM
  have l1 : w1.cell? ⟨w.heap.size, 1, none⟩ = some (.int .i64 t) := (C1.2 1).1
  have l2 : w1.cell? ⟨w.heap.size, 2, none⟩ = some (.int .i64 d) := (C1.2 2).1
  have l3 : w1.cell? ⟨w.heap.size, 3, none⟩ = some (.slice p n c) := (C1.2 3).1
  clear C1
  cases R0
  · have hr : R = false := by rw [hR.out]; rfl
    subst hr
    clear hR
    go_wp2_with (fail)
    go_ret
    exact ⟨rfl, k1⟩
  · by_cases h1 : 0 ≤ t
    · by_cases h2 : t ≤ 9
      · rw [decide_eq_true (show 0 ≤ t ∧ t ≤ 9 from ⟨h1, h2⟩)] at hR
        go_wp2_with (fail)
        refine (D _).mono ?_
        rintro z w2 ⟨rfl, rfl⟩
        cases R1
        · have hr : R = false := by rw [hR.out]; rfl
          subst hr
          clear hR
          go_wp2_with (fail)
          go_ret
          exact ⟨rfl, k1⟩
        · by_cases h3 : (n : Int) ≤ 1560
          · have hr : R = true := by rw [hR.out, decide_eq_true (show n ≤ 1560 by omega)]; rfl
            subst hr
            clear hR
            go_wp2_with (fail)
            go_ret
            exact ⟨rfl, k1⟩
          · have hr : R = false := by rw [hR.out, decide_eq_false (show ¬ n ≤ 1560 by omega)]; rfl
            subst hr
            clear hR
            go_wp2_with (fail)
            go_ret
            exact ⟨by rw [decide_eq_false (Int.not_le.2 h3)]; rfl, k1⟩
      · have hr : R = false := by rw [hR.out, decide_eq_false (show ¬ (0 ≤ t ∧ t ≤ 9) from fun k => h2 k.2)]; rfl
        subst hr
        clear hR
        go_wp2_with (fail)
        go_ret
        exact ⟨rfl, k1⟩
    · have hr : R = false := by rw [hR.out, decide_eq_false (show ¬ (0 ≤ t ∧ t ≤ 9) from fun k => h1 k.1)]; rfl
      subst hr
      clear hR
      go_wp2_with (fail)
      go_ret
      exact ⟨rfl, k1⟩

set_option maxHeartbeats 4000000 in
theorem specItemOk_any (s : ByteArray) (t d : Int) (p : Option Addr) (n c : Nat) (w : World) (hs : s.size ≤ 1048576) :
    Calls Tryz.prog 54 #[.agg #[.string s, .int .i64 t, .int .i64 d, .slice p n c]] w fun z w' => z = .returned (.bool (itB s t d n)) ∧ Below w.heap.size w w' := by
  have C := fun X => l13Route_any s X hs
  have D := fun X => in_any d 0 100000 X
  have T := fun X => in_any t 0 9 X
  obtain ⟨R, hR⟩ : ∃ R : Bool, R = itB s t d n := ⟨_, rfl⟩
  rw [← hR]
  replace hR : Hid (R = itB s t d n) := hR
  unfold itB at hR
  generalize rtB s = R0 at C hR
  generalize decide (0 ≤ d ∧ d ≤ 100000) = R1 at D hR
  generalize decide (0 ≤ t ∧ t ≤ 9) = R2 at T hR
  have hM : ∀ o, Cells (w.alloc (.cells #[.string s, .int .i64 t, .int .i64 d, .slice p n c] o)) w.heap.size #[.string s, .int .i64 t, .int .i64 d, .slice p n c] := fun o => Cells.made _ _ _
  go_enter Tryz.func54, Tryz.ntmps54
  go_wp2_with (fail)
  refine (C _).mono ?_
  rintro z w1 ⟨rfl, b1⟩
  have k1 := made_below _ _ b1
  have C1 := (hM _).on b1
  clear b1 hM
  have l1 : w1.cell? ⟨w.heap.size, 1, none⟩ = some (.int .i64 t) := (C1.2 1).1
  have l2 : w1.cell? ⟨w.heap.size, 2, none⟩ = some (.int .i64 d) := (C1.2 2).1
  have l3 : w1.cell? ⟨w.heap.size, 3, none⟩ = some (.slice p n c) := (C1.2 3).1
  clear C1
  cases R0
  · have hr : R = false := by rw [hR.out]; rfl
    subst hr
    clear hR
    go_wp2_with (fail)
    go_ret
    exact ⟨rfl, k1⟩
  · go_wp2_with (fail)
    refine (T _).mono ?_
    rintro z w2 ⟨rfl, rfl⟩
    cases R2
    · have hr : R = false := by rw [hR.out]; rfl
      subst hr
      clear hR
      go_wp2_with (fail)
      go_ret
      exact ⟨rfl, k1⟩
    · go_wp2_with (fail)
      refine (D _).mono ?_
      rintro z w2 ⟨rfl, rfl⟩
      cases R1
      · have hr : R = false := by rw [hR.out]; rfl
        subst hr
        clear hR
        go_wp2_with (fail)
        go_ret
        exact ⟨rfl, k1⟩
      · by_cases h3 : (n : Int) ≤ 1560
        · have hr : R = true := by rw [hR.out, decide_eq_true (show n ≤ 1560 by omega)]; rfl
          subst hr
          clear hR
          go_wp2_with (fail)
          go_ret
          exact ⟨rfl, k1⟩
        · have hr : R = false := by rw [hR.out, decide_eq_false (show ¬ n ≤ 1560 by omega)]; rfl
          subst hr
          clear hR
          go_wp2_with (fail)
          go_ret
          exact ⟨by rw [decide_eq_false (Int.not_le.2 h3)]; rfl, k1⟩

end Go.Proofs.YthfnechcddmjkaaGreatDoor

namespace Go.Proofs.YthfnechcddmjkaaGreatDoor
open Go.RowKit
set_option maxRecDepth 100000

def Pair (w' : World) (lo : Nat) (p q : Option Addr) (c d n m : Nat) (xs ys : List Int) : Prop :=
  ∃ l1 h1 l2 h2, Own 5 w' l1 h1 (.slice p n c) n xs ∧ Own 5 w' l2 h2 (.slice q m d) m ys ∧ (lo ≤ l1 ∧ h1 ≤ w'.heap.size) ∧ (lo ≤ l2 ∧ h2 ≤ w'.heap.size) ∧ (h1 ≤ l2 ∨ h2 ≤ l1)
theorem Pair.none (w' : World) (lo : Nat) (h : lo ≤ w'.heap.size) : Pair w' lo none none 0 0 0 0 [] [] :=
  ⟨lo, lo, lo, lo, ⟨⟨rfl, .inl ⟨rfl, rfl⟩⟩, fun k hk => by cases hk⟩, ⟨⟨rfl, .inl ⟨rfl, rfl⟩⟩, fun k hk => by cases hk⟩, ⟨Nat.le_refl _, h⟩, ⟨Nat.le_refl _, h⟩, .inl (Nat.le_refl _)⟩
def Emp (w : World) (B : Nat) : Prop := w.heap[B]? = some (.cells #[] 5 (0, 0))
def RowAt (w : World) (g cap n : Nat) (ys : List Int) : Prop := w.ownsRow g 5 1 (.slice (some ⟨g, 0, none⟩) n cap) n (ys.map (Value.int .u8))
theorem Emp.lt {w : World} {B : Nat} (h : Emp w B) : B < w.heap.size := (Array.getElem?_eq_some_iff.1 h).1
theorem emp_made (w : World) (B : Nat) (h : w.heap.size = B) : Emp (w.alloc (.cells #[] 5)) B := by subst h; exact heap_made _ _
theorem emp_below {w w' : World} {B : Nat} (h : Emp w B) (b : Below w.heap.size w w') : Emp w' B := (b.block B h.lt).trans h
theorem rowAt_below {w w' : World} {g cap n : Nat} {ys : List Int} (h : RowAt w g cap n ys) (b : Below w.heap.size w w') : RowAt w' g cap n ys := owns_below h b
theorem rowAt_grown {w w' : World} {g cap n B' : Nat} {ys : List Int} (h : RowAt w g cap n ys) (hg : w.grownBy w' (some B')) (ne : g ≠ B') : RowAt w' g cap n ys := h.kept hg (.inr fun e => ne (Option.some.inj e))
theorem RowAt.own {w : World} {g cap n : Nat} {ys : List Int} (h : RowAt w g cap n ys) : Own 5 w g (g + 1) (.slice (some ⟨g, 0, none⟩) n cap) n ys := ⟨h, fun k hk => by cases hk; exact Nat.lt_succ_self _⟩

theorem step_fresh {P : Program} {ops : Array Oper} {o : Oper} {a : Act} {K : Act → World → Prop} {Q : Exit → Act → World → Prop} {E : Prop} {i : TypeInfo} {wr w0 : World} {B m c lo : Nat} {p : Option Addr} {ys : List Int}
    (hi : P.info? 5 = some i) (hz : i.zero = some (.int .u8 0)) (hsize : i.size = 1) (hby : i.bytes = 1) (s y : Operand) (t : TypeId) (ht : P.underlying t = some (.slice 5)) (hgd : o.guard = none) (ho : o.op = .call { callee := .builtin .append, args := #[s, y], argTypes := #[t, t] }) (hs : a.eval s = .slice (some ⟨B, 0, none⟩) 0 0) (hy : a.eval y = .slice p m c)
    (hE : Emp wr B) (hin : BytesIn wr p m ys) (hl : ys.length = m) (hm : 0 < m) (hm' : m ≤ 1048576) (hb : Below lo w0 wr) (hlo : lo ≤ B)
    (h : ∀ g cap w', RowAt w' g cap m ys → (g = B ∨ g = wr.heap.size) → g < w'.heap.size → wr.heap.size ≤ w'.heap.size → wr.grownBy w' (some B) → Below lo w0 w' → K (a.put o.dst (.slice (some ⟨g, 0, none⟩) m cap)) w') :
    if Region.wanted o (yielded ops a.tmps) = true then Oper.wp P o a wr K Q else E := by
  obtain ⟨b, of, rfl, hc⟩ := hin hm
  have hown : wr.ownsRow B 5 1 (.slice (some ⟨B, 0, none⟩) 0 0) 0 (([] : List Int).map (Value.int .u8)) := ⟨rfl, .inr ⟨B, 0, #[], rfl, Nat.le_refl _, hE, Nat.le_refl _, Nat.zero_le _, rfl, rfl⟩⟩
  refine step_append_lies _ hgd s y t ho B 5 i (.int .u8 0) 1 1 ht hi hz hsize hby rfl (by decide) _ 0 _ hs hown ⟨b, of, none⟩ m c (ys.map (Value.int .u8)) hy (by simp [hl]) (fun j u hu => ?_) (fun u hu => ?_) hm (by unfold maxLen; omega) (by omega) (Nat.le_of_lt hE.lt) _ rfl fun g cap w' ho' hg hgg hlt => ?_
  · rw [List.getElem?_map] at hu
    obtain ⟨v, hv, rfl⟩ := Option.map_eq_some_iff.1 hu
    have hj := (List.getElem?_eq_some_iff.1 hv).1
    rw [Addr.add_lit, hc j (by omega), List.getD_eq_getElem?_getD, hv]
    rfl
  · obtain ⟨v, _, rfl⟩ := List.mem_map.1 hu
    rfl
  · rw [Nat.zero_add] at ho' ⊢
    have hrow : RowAt w' g cap m ys := by
      refine ⟨ho'.1, .inr ?_⟩
      rcases ho'.2 with ⟨hv, _⟩ | ⟨g', cap', cur, hv, h1, h2, h3, h4, h5, h6⟩
      · cases hv
      · cases hv
        exact ⟨g, cap, cur, rfl, Nat.le_refl _, h2, h3, h4, h5, h6⟩
    exact h g cap w' hrow (hgg.imp (fun e => (Option.some.inj e).symm) id) hlt hg.size hg (hb.grown hg (Nat.le_of_lt (Nat.lt_of_le_of_lt hlo hE.lt)) fun k hk => by cases hk; exact hlo)

end Go.Proofs.YthfnechcddmjkaaGreatDoor
