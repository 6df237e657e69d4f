/-
  The program's copied: a copy of bytes. Condition: bytes that lie there.
  The cells of a block of one's own: what lies there, behind stores into it and behind what else is done. No condition beyond each fact's own.
  What the draws of chapter 11's laws answer: letters that are most often right, their bytes, keys.
  The laws' own functions of a letter: its size, a copy, whether two are the same, marks; conditions: bytes that lie there.
  What the specification answers of letters: whether one is right, its bytes; conditions: bytes that lie there.
  What the program answers of letters: whether one is right; a copy of bytes. Conditions: bytes that lie there.
  'append([]byte{}, xs...)' in a region that draws its order: the literal's row and the new one. Conditions: bytes that lie there, at least one.
-/
import Derived.Test.YtdjdanpicbaieaaDoorPart02
import Derived.Test.YtdjdanpicbaieaaDoorPart01
import Derived.Laws.CopyOwn
import Derived.Deep.AppendLies
namespace Go.Proofs.YtdjdanpicbaieaaDoor
open Go.RowKit
set_option maxRecDepth 100000

theorem heap_made (w : World) (o : Obj) : (w.alloc o).heap[w.heap.size]? = some o := by
  show (w.heap.push o)[w.heap.size]? = some o
  simp
theorem made_below (w : World) (o : Obj) {w' : World} (b : Below (w.alloc o).heap.size (w.alloc o) w') : Below w.heap.size w w' :=
  ((Below.refl _ _).alloc (Nat.le_refl _) o).trans (b.mono (by simp))

theorem makeM (Z : Nat) (hZ : Z ≤ 16777216) (W : World) : (Instr.makeSlice 22 (.int .i64 (Z : Int)) (.int .i64 (Z : Int))).run Tryd.prog W = .ok (.slice (some ⟨W.heap.size, 0, none⟩) Z Z) (W.alloc (.cells (madeCells #[.int .u8 0] Z) 5)) := by
  obtain ⟨i0, hi, hz0, hz1, hz2⟩ := info_parts infoByte
  have := run_makeSlice (P := Tryd.prog) W 22 5 i0 (.int .u8 0) Tryd.underlying22 hi hz0 .i64 .i64 Z Z (by omega) (by omega) (by rw [hz1]; simp; omega) (by rw [hz2]; omega) (by omega)
  simpa [hz1, Value.cells] using this
/-- A row that is made, as a list. -/
def noughtV (Z : Nat) : List Value := List.replicate Z (.int .u8 0)
theorem noughtV_length (Z : Nat) : (noughtV Z).length = Z := by simp [noughtV]
theorem madeM (Z : Nat) : madeCells #[Value.int .u8 0] Z = (noughtV Z).toArray := by
  have e : (madeCells #[Value.int .u8 0] Z).toList = noughtV Z := toList_madeCells_one _ _
  rw [← e]
/-- A row that is known whole is owned. -/
theorem row_own {w : World} {lo g n : Nat} {xs : List Int} (hg : w.heap[g]? = some (.cells (xs.map (Value.int .u8)).toArray 5 (0, 0))) (hlo : lo ≤ g) (hx : xs.length = n) (hn : n ≤ 1099511627) : Own 5 w lo w.heap.size (.slice (some ⟨g, 0, none⟩) n n) n xs :=
  .of ⟨by simp [hx], .inr ⟨g, n, _, rfl, hlo, hg, Nat.le_refl _, by unfold maxLen; omega, by simp [hx], by simp [hx, List.take_of_length_le]⟩⟩
/-- The cells of bytes, where there are some. -/
theorem in_cells {w : World} {p : Option Addr} {n : Nat} {xs : List Int} (h : BytesIn w p n xs) (hx : xs.length = n) (h0 : 0 < (xs.map (Value.int .u8)).length) : ∃ ad, p = some ad ∧ ∀ j v, (xs.map (Value.int .u8))[j]? = some v → w.cell? (ad.add j) = some v := by
  obtain ⟨b, o, rfl, hc⟩ := h (by simpa [hx] using h0)
  refine ⟨⟨b, o, none⟩, rfl, fun j v hv => ?_⟩
  rw [List.getElem?_map] at hv
  obtain ⟨u, hu, rfl⟩ := Option.map_eq_some_iff.1 hv
  have hj := (List.getElem?_eq_some_iff.1 hu).1
  rw [Addr.add_lit, hc j (by omega), List.getD_eq_getElem?_getD, hu]
  rfl
theorem u8_one (xs : List Int) : ∀ v ∈ xs.map (Value.int .u8), v.oneCell' = true := fun v hv => by
  obtain ⟨u, _, rfl⟩ := List.mem_map.1 hv
  rfl

set_option maxHeartbeats 2000000 in
theorem copied_any (p : Option Addr) (n c : Nat) (xs : List Int) (w : World) (hn : n ≤ 1048576) (hx : xs.length = n) (h : BytesIn w p n xs) :
    Calls Tryd.prog 44 #[.slice p n c] w fun e w' => ∃ p' c', e = .returned (.slice p' n c') ∧ Own 5 w' w.heap.size w'.heap.size (.slice p' n c') n xs ∧ Below w.heap.size w w' := by
  obtain ⟨i0, hi, hz0, hz1, hz2⟩ := info_parts infoByte
  have hs5 : (Tryd.prog.info? 5).map (·.size) = some 1 := by rw [hi]; simp [hz1]
  have hmk := fun W => makeM n (by omega) W
  rw [madeM] at hmk
  have ba : ∀ o, Below w.heap.size w (w.alloc o) := fun o => made_below _ _ (Below.refl _ _)
  have hrow : (w.alloc (.cells (noughtV n).toArray 5)).heap[w.heap.size]? = some (.cells (noughtV n).toArray 5 (0, 0)) := heap_made _ _
  obtain ⟨Z, hZ⟩ : ∃ Z, Z = noughtV n := ⟨_, rfl⟩
  have hZl : Z.length = n := by rw [hZ, noughtV_length]
  rw [← hZ] at hmk hrow
  obtain ⟨V, hV⟩ : ∃ V, V = xs.map (Value.int .u8) := ⟨_, rfl⟩
  have hVl : V.length = n := by rw [hV]; simpa using hx
  have hpos : ∀ X, Below w.heap.size w X → 0 < V.length → ∃ ad, p = some ad ∧ ∀ j v, V[j]? = some v → X.cell? (ad.add j) = some v := fun X hX h0 => by rw [hV] at h0 ⊢; exact in_cells (in_below h hX) hx h0
  have hone : ∀ v ∈ V, v.oneCell' = true := by rw [hV]; exact u8_one xs
  have hfin : Hid (splice Z 0 V = V) := by
    show splice Z 0 V = V
    rw [splice, List.take_zero, List.nil_append, Nat.zero_add, List.drop_of_length_le (by omega), List.append_nil]
  replace hV : Hid (V = xs.map (Value.int .u8)) := hV
  clear hZ hi hz0 hz1 hz2 h
  go_enter Tryd.func44, Tryd.ntmps44
  go_wp2_with (refine wpList_copy_splice (by rfl) (.tmp 7) (.tmp 8) 22 22 (by rfl) 5 Tryd.underlying22 hs5 (some ⟨w.heap.size, 0, none⟩) p n n n c (by rfl) (by rfl) w.heap.size 0 Z 5 hrow V (by rw [hVl]; exact (Nat.min_self n).symm) (fun h0 => ⟨rfl, hpos _ (ba _) h0⟩) (by omega) hone w.heap.size w (ba _) (Nat.le_refl _) ?_; intro w2 hg2 hb2)
  go_ret
  have hg3 := hg2.out
  rw [hfin.out, hV.out] at hg3
  exact ⟨_, _, rfl, row_own hg3 (Nat.le_refl _) hx (by omega), hb2⟩

end Go.Proofs.YtdjdanpicbaieaaDoor

namespace Go.Proofs.YtdjdanpicbaieaaDoor
open Go.RowKit
set_option maxRecDepth 100000

/-- The cells of a block of one's own. -/
def Cells (w : World) (g : Nat) (A : Array Value) : Prop := g < w.heap.size ∧ ∀ i, w.cell? ⟨g, i, none⟩ = A[i]? ∧ w.frozen? ⟨g, i, none⟩ = false
theorem Cells.made (w : World) (A : Array Value) (T : TypeId) : Cells (w.alloc (.cells A T)) w.heap.size A := by
  have e := heap_made w (.cells A T)
  refine ⟨by simp, fun i => ⟨by simp only [World.cell?, e]; rfl, ?_⟩⟩
  simp only [World.frozen?, e]
  simp
theorem Cells.on {w w' : World} {g : Nat} {A : Array Value} (h : Cells w g A) (b : Below w.heap.size w w') : Cells w' g A :=
  ⟨Nat.lt_of_lt_of_le h.1 b.size, fun i => ⟨(b.cell h.1).trans (h.2 i).1, (b.frozen h.1).trans (h.2 i).2⟩⟩
theorem Cells.other {w : World} {g : Nat} {A : Array Value} (h : Cells w g A) {a : Addr} (v : Value) (ha : g ≠ a.block) : Cells (w.setCell a v) g A := by
  have e := Below.heap_setCell w a v g ha
  refine ⟨by simpa using h.1, fun i => ⟨?_, ?_⟩⟩
  · rw [← (h.2 i).1]; exact World.cell?_of_block (w := w) e
  · rw [← (h.2 i).2]; exact World.frozen?_of_block (w := w) e
theorem Cells.set {w : World} {g : Nat} {A : Array Value} (h : Cells w g A) (k : Nat) (hk : k < A.size) (v : Value) : Cells (w.setCell ⟨g, k, none⟩ v) g (A.setIfInBounds k v) := by
  refine ⟨by simpa using h.1, fun i => ⟨?_, ?_⟩⟩
  · by_cases e : k = i
    · subst e
      rw [World.cell?_setCell_same w _ _ (by rw [(h.2 k).1]; exact Array.getElem?_eq_getElem hk)]
      simp [hk]
    · rw [World.cell?_setCell_other _ _ _ _ (by intro x; simp only [Addr.mk.injEq] at x; omega), (h.2 i).1, Array.getElem?_setIfInBounds_ne e]
  · rw [World.frozen?_setCell]; exact (h.2 i).2
theorem Cells.grown {w w' : World} {g : Nat} {A : Array Value} {r : Option Nat} (h : Cells w g A) (hg : w.grownBy w' r) (hr : some g ≠ r) : Cells w' g A := by
  have e := hg.block g h.1 hr
  exact ⟨Nat.lt_of_lt_of_le h.1 hg.size, fun i => ⟨(World.cell?_of_block (w := w) e).trans (h.2 i).1, (World.frozen?_of_block (w := w) e).trans (h.2 i).2⟩⟩

theorem Own.set_below {e : Nat} {w : World} {lo hi : Nat} {v : Value} {n : Nat} {xs : List Int} (h : Own e w lo hi v n xs) {a : Addr} (ha : a.block < lo) (u : Value) : Own e (w.setCell a u) lo hi v n xs := ⟨ownsRow_setCell_below h.1 ha u, h.2⟩

theorem set_grown (w : World) (R i : Nat) (v : Value) : w.grownBy (w.setCell ⟨R, i, none⟩ v) (some R) := ⟨rfl, rfl, rfl, by simp [World.setCell], fun k _ hk => Below.heap_setCell _ _ _ k (fun e => hk (by rw [e]))⟩
theorem drew_grown (w : World) (r : Option Nat) : w.grownBy w.drew r := ⟨rfl, rfl, rfl, Nat.le_refl _, fun _ _ _ => rfl⟩

end Go.Proofs.YtdjdanpicbaieaaDoor

namespace Go.Proofs.YtdjdanpicbaieaaDoor
open Go.RowKit
set_option maxRecDepth 100000

set_option maxHeartbeats 4000000 in
theorem l11DrawBent_any (a : Nat) (p : Option Addr) (n c : Nat) (xs : List Int) (w : World) (hcur : Cur w a p n c xs) :
    Calls Tryd.prog 39 #[.pointer (some ⟨a, 0, none⟩)] w fun e w' => ∃ ep p1 n1 c1 p2 n2 c2 ys zs, e = .returned (.agg #[.int .i64 ep, .slice p1 n1 c1, .slice p2 n2 c2]) ∧ ((-1 ≤ ep ∧ ep ≤ 65536) ∧ n1 ≤ 1000 ∧ n2 ≤ 2000 ∧ (∀ y ∈ ys, 0 ≤ y ∧ y < 256) ∧ ∀ y ∈ zs, 0 ≤ y ∧ y < 256) ∧
      Own 5 w' w.heap.size w'.heap.size (.slice p1 n1 c1) n1 ys ∧ Own 5 w' w.heap.size w'.heap.size (.slice p2 n2 c2) n2 zs ∧ Cur w' a p n c xs ∧ w.grownBy w' (some a) := by
  have ha := hcur.lt
  have hcl := hcur.code_lt
  obtain ⟨W0, hW0⟩ : ∃ W0, W0 = w.alloc (.cells #[.int .i64 0, .slice none 0 0, .slice none 0 0] 31) := ⟨_, rfl⟩
  have C0 : Cells W0 w.heap.size #[.int .i64 0, .slice none 0 0, .slice none 0 0] := by rw [hW0]; exact Cells.made _ _ _
  have bW0 : Below w.heap.size w W0 := by rw [hW0]; exact made_below _ _ (Below.refl _ _)
  have gW0 : w.grownBy W0 (some a) := by rw [hW0]; exact World.grownBy_alloc w _ _
  have c0 := hcur.below bW0 ha hcl
  have hB0 : some w.heap.size ≠ some a := fun x => by cases x; omega
  replace hW0 : Hid (w.alloc (.cells #[.int .i64 0, .slice none 0 0, .slice none 0 0] 31) = W0) := hW0.symm
  go_enter Tryd.func39, Tryd.ntmps39
  go_wp2_with (rw [hW0.out])
  refine (l1Below_any a p n c xs 3 _ (by omega) (by omega) c0).mono ?_
  rintro e w1 ⟨x, rfl, hx0, hx1, hc1, g1⟩
  replace C0 := C0.grown g1 hB0
  have zW0 : Hid (w.heap.size + 1 ≤ w1.heap.size) := by show w.heap.size + 1 ≤ w1.heap.size; have := g1.size; rw [← hW0.out] at this; simpa using this
  replace g1 := grown_trans gW0 g1
  clear hW0 bW0 gW0 c0
  have hl1 := hc1.lt
  go_wp2_with (fail)
  refine (l1DrawJust_is a p n c xs 32 _ (by omega) hc1).mono ?_
  rintro e w2 ⟨g2, k2, c2, y2, rfl, hk2, o2, by2, hc2, gg2⟩
  subst hk2
  replace C0 := C0.grown gg2 hB0
  have z1 := g1.size
  have zz2 := gg2.size
  replace g1 := grown_trans g1 gg2
  go_wp2_with (fail)
  refine (l1Below_any a p n c xs 40 _ (by omega) (by omega) hc2).mono ?_
  rintro e w3 ⟨y, rfl, hy0, hy1, hc3, gg3⟩
  replace C0 := C0.grown gg3 hB0
  have o3 := owns_cur o2.1 gg3 (by omega)
  have z2 := g1.size
  have zz3 := gg3.size
  replace g1 := grown_trans g1 gg3
  obtain ⟨U, hU, eU⟩ : ∃ U : Nat, U ≤ 60 ∧ 16 + y = (U : Int) := ⟨16 + y.toNat, by omega, by omega⟩
  clear o2 hc2 hc1 gg2 gg3
  go_wp2_with (fail)
  refine (l1DrawJust_is a p n c xs U _ (by omega) hc3).mono ?_
  rintro e w4 ⟨g4, k4, c4, y4, rfl, hk4, o4, by4, hc4, gg4⟩
  subst hk4
  replace C0 := C0.grown gg4 hB0
  have z3 := g1.size
  have hl3 := hc3.lt
  replace o3 := owns_cur o3 gg4 (by omega)
  replace g1 := grown_trans g1 gg4
  have z4 := g1.size
  have hg2 := (o3.lt g2 rfl).2
  have hg4 := (o4.1.lt g4 rfl).2
  replace o3 := owns_mono o3 (show w.heap.size + 1 ≤ w1.heap.size by have := zW0.out; omega)
  have o4' := owns_mono o4.1 (show w.heap.size + 1 ≤ w3.heap.size by have := zW0.out; omega)
  clear o4 gg4 hc3
  obtain ⟨W5, hW5⟩ : ∃ W5, W5 = w4.alloc (.cells #[.int .i64 x, .slice (some ⟨g2, 0, none⟩) 32 c2, .slice (some ⟨g4, 0, none⟩) k4 c4] 31) := ⟨_, rfl⟩
  have C3 : Cells W5 w4.heap.size #[.int .i64 x, .slice (some ⟨g2, 0, none⟩) 32 c2, .slice (some ⟨g4, 0, none⟩) k4 c4] := by rw [hW5]; exact Cells.made _ _ _
  have b5 : Below w4.heap.size w4 W5 := by rw [hW5]; exact made_below _ _ (Below.refl _ _)
  have gg5 : w4.grownBy W5 (some a) := by rw [hW5]; exact World.grownBy_alloc w4 _ _
  have hl4 := hc4.lt
  have hc5 := hc4.below b5 hc4.lt hc4.code_lt
  have hB3 : some w4.heap.size ≠ some a := fun x => by cases x; omega
  have hB03 : w.heap.size < w4.heap.size := C0.1
  replace C0 := C0.on b5
  have o5 := owns_below o3 b5
  have q5 := owns_below o4' b5
  replace g1 := grown_trans g1 gg5
  replace hW5 : Hid (w4.alloc (.cells #[.int .i64 x, .slice (some ⟨g2, 0, none⟩) 32 c2, .slice (some ⟨g4, 0, none⟩) k4 c4] 31) = W5) := hW5.symm
  clear o3 o4' b5 gg5 hc4
  go_wp2_with (rw [hW5.out])
  refine (l1Below_any a p n c xs 8 _ (by omega) (by omega) hc5).mono ?_
  rintro e w6 ⟨t, rfl, ht0, ht1, hc6, gg6⟩
  replace C0 := C0.grown gg6 hB0
  replace C3 := C3.grown gg6 hB3
  replace o5 := owns_cur o5 gg6 (by omega)
  replace q5 := owns_cur q5 gg6 (by omega)
  replace g1 := grown_trans g1 gg6
  clear hW5 hc5 gg6
  obtain ⟨B3, hB3e⟩ : ∃ B3, B3 = w4.heap.size := ⟨_, rfl⟩
  have zB3 : w.heap.size ≤ B3 ∧ B3 < w6.heap.size := ⟨by omega, by have := C3.1; omega⟩
  rw [← hB3e] at C3 hB3 hB03 hg2 hg4
  rw [← hB3e]
  clear hB3e z4 z3 z2 z1 zz2 zz3 hl4 hl3
  obtain ⟨B0, hB0e⟩ : ∃ B0, B0 = w.heap.size := ⟨_, rfl⟩
  have zB0 : w.heap.size ≤ B0 := by omega
  rw [← hB0e] at C0 hB0 hB03 o5 q5
  rw [show (⟨w.heap.size, 0, none⟩ : Addr) = ⟨B0, 0, none⟩ by rw [hB0e]]
  have hBne : B0 ≠ B3 := by omega
  have zB3' : w.heap.size ≤ B3 := zB3.1
  have hg24 : g2 ≠ B3 ∧ g4 ≠ B3 := ⟨by omega, by omega⟩
  clear hB0e zB3
  by_cases t0 : t = 0
  · subst t0
    have hb0 : Below w6.heap.size w6 (w6.alloc (.cells #[.int .i64 (-1), .int .i64 65535, .int .i64 65536] 3)) := (Below.refl _ _).alloc (Nat.le_refl _) _
    have hlw := hc6.lt
    go_wp2_with (fail)
    refine (l1PickInt_any a p n c xs w6.heap.size 3 [-1, 65535, 65536] _ (by omega) (by omega) rfl (lit_ints w6 [-1, 65535, 65536] 3) (by omega) (hc6.below hb0 hlw hc6.code_lt)).mono ?_
    rintro e w7 ⟨z, hz, rfl, hc7, gg7⟩
    replace C0 := (C0.on hb0).grown gg7 hB0
    replace C3 := (C3.on hb0).grown gg7 hB3
    replace o5 := owns_cur (owns_below o5 hb0) gg7 (by omega)
    replace q5 := owns_cur (owns_below q5 hb0) gg7 (by omega)
    have gK0 := grown_trans (grown_below g1 (hb0.mono g1.size)) gg7
    clear hb0 gg7 hc6
    have lz : -1 ≤ z ∧ z ≤ 65536 := by
      simp only [List.mem_cons, List.not_mem_nil, or_false] at hz
      omega
    clear hz
    have hcK := hc7
    have gK := gK0
    clear hc7 gK0
    have s0 : w7.cell? ⟨B3, 0, none⟩ = _ := (C3.2 0).1
    have fs := (C3.2 0).2
    obtain ⟨Y, hY⟩ : ∃ Y, Y = w7.setCell ⟨B3, 0, none⟩ (.int .i64 z) := ⟨_, rfl⟩
    have bY : Below w.heap.size w7 Y := by rw [hY]; exact (Below.refl _ _).setCell (show w.heap.size ≤ B3 from zB3') _
    have gY : w7.grownBy Y (some B3) := by rw [hY]; exact set_grown _ _ _ _
    have C3' := C3.set 0 (by simp) (.int .i64 z)
    rw [← hY] at C3'
    have C0' := C0.grown gY (fun x => hBne (by cases x; rfl))
    have hcX1 := hcK.below bY ha hcl
    have gK1 := grown_below gK bY
    have o6 := o5.kept gY (.inr (fun x => hg24.1 (by cases x; rfl)))
    have q6 := q5.kept gY (.inr (fun x => hg24.2 (by cases x; rfl)))
    replace hY : Hid (w7.setCell ⟨B3, 0, none⟩ (.int .i64 z) = Y) := hY.symm
    clear C3 C0 bY gY hcK gK o5 q5
    have l0 : Y.cell? ⟨B3, 0, none⟩ = some (.int .i64 z) := (C3'.2 0).1
    have l1 : Y.cell? ⟨B3, 1, none⟩ = some (.slice (some ⟨g2, 0, none⟩) 32 c2) := (C3'.2 1).1
    have l2 : Y.cell? ⟨B3, 2, none⟩ = some (.slice (some ⟨g4, 0, none⟩) k4 c4) := (C3'.2 2).1
    have m0 : Y.cell? ⟨B0, 0, none⟩ = some (.int .i64 0) := (C0'.2 0).1
    have f0 := (C0'.2 0).2
    have D1 := C0'.set 0 (by simp) (.int .i64 z)
    have m1 : (Y.setCell ⟨B0, 0, none⟩ (.int .i64 z)).cell? ⟨B0, 1, none⟩ = some (.slice none 0 0) := (D1.2 1).1
    have f1 := (D1.2 1).2
    have D2 := D1.set 1 (by simp) (.slice (some ⟨g2, 0, none⟩) 32 c2)
    have m2 : ((Y.setCell ⟨B0, 0, none⟩ (.int .i64 z)).setCell ⟨B0, 1, none⟩ (.slice (some ⟨g2, 0, none⟩) 32 c2)).cell? ⟨B0, 2, none⟩ = some (.slice none 0 0) := (D2.2 2).1
    have f2 := (D2.2 2).2
    have D3 := D2.set 2 (by simp) (.slice (some ⟨g4, 0, none⟩) k4 c4)
    obtain ⟨X3, hX3⟩ : ∃ X3, X3 = ((Y.setCell ⟨B0, 0, none⟩ (.int .i64 z)).setCell ⟨B0, 1, none⟩ (.slice (some ⟨g2, 0, none⟩) 32 c2)).setCell ⟨B0, 2, none⟩ (.slice (some ⟨g4, 0, none⟩) k4 c4) := ⟨_, rfl⟩
    have bX : Below w.heap.size Y X3 := by rw [hX3]; exact (((Below.refl _ _).setCell (show w.heap.size ≤ B0 by omega) _).setCell (show w.heap.size ≤ B0 by omega) _).setCell (show w.heap.size ≤ B0 by omega) _
    have oX := ownsRow_setCell_below (a := ⟨B0, 2, none⟩) (ownsRow_setCell_below (a := ⟨B0, 1, none⟩) (ownsRow_setCell_below (a := ⟨B0, 0, none⟩) o6 (show B0 < B0 + 1 by omega) (.int .i64 z)) (show B0 < B0 + 1 by omega) (.slice (some ⟨g2, 0, none⟩) 32 c2)) (show B0 < B0 + 1 by omega) (.slice (some ⟨g4, 0, none⟩) k4 c4)
    rw [← hX3] at oX
    have qX := ownsRow_setCell_below (a := ⟨B0, 2, none⟩) (ownsRow_setCell_below (a := ⟨B0, 1, none⟩) (ownsRow_setCell_below (a := ⟨B0, 0, none⟩) q6 (show B0 < B0 + 1 by omega) (.int .i64 z)) (show B0 < B0 + 1 by omega) (.slice (some ⟨g2, 0, none⟩) 32 c2)) (show B0 < B0 + 1 by omega) (.slice (some ⟨g4, 0, none⟩) k4 c4)
    rw [← hX3] at qX
    rw [← hX3] at D3
    have y0 : X3.cell? ⟨B0, 0, none⟩ = some (.int .i64 z) := (D3.2 0).1
    have y1 : X3.cell? ⟨B0, 1, none⟩ = some (.slice (some ⟨g2, 0, none⟩) 32 c2) := (D3.2 1).1
    have y2 : X3.cell? ⟨B0, 2, none⟩ = some (.slice (some ⟨g4, 0, none⟩) k4 c4) := (D3.2 2).1
    have hcX := hcX1.below bX ha hcl
    have gX := grown_below gK1 bX
    replace hX3 : Hid (((Y.setCell ⟨B0, 0, none⟩ (.int .i64 z)).setCell ⟨B0, 1, none⟩ (.slice (some ⟨g2, 0, none⟩) 32 c2)).setCell ⟨B0, 2, none⟩ (.slice (some ⟨g4, 0, none⟩) k4 c4) = X3) := hX3.symm
    clear D1 D2 D3 bX hcX1 gK1 C3' C0' o6 q6
    go_wp2_with (first | rw [hY.out] | rw [hX3.out])
    refine bodyPost_ret (v := .agg #[.int .i64 z, .slice (some ⟨g2, 0, none⟩) 32 c2, .slice (some ⟨g4, 0, none⟩) k4 c4]) ?_ rfl ⟨_, _, _, _, _, _, _, _, _, rfl, ⟨lz, by omega, by omega, by2, by4⟩, .of (owns_mono oX (show w.heap.size ≤ B0 + 1 by omega)), .of (owns_mono qX (show w.heap.size ≤ B0 + 1 by omega)), hcX, gX⟩
    simp only [results, Tryd.f39]
    go_simp
  · have d0 : (t == 0) = false := by simpa using t0
    by_cases t1 : t = 1
    · subst t1
      go_wp2_with (fail)
      refine (l1DrawNear_any a p n c xs 31 _ (by omega) (by omega) hc6).mono ?_
      rintro e w7 ⟨g7, k7, c7, y7, rfl, hk7, o7, by7, hc7, gg7⟩
      replace C0 := C0.grown gg7 hB0
      have z6 := C3.1
      replace C3 := C3.grown gg7 hB3
      replace q5 := owns_cur q5 gg7 (by omega)
      have z6' := g1.size
      have gK := grown_trans g1 gg7
      have hg7 := (o7.1.lt g7 rfl).1
      have r7 := owns_mono o7.1 (show B0 + 1 ≤ w6.heap.size by omega)
      have hne7 : g7 ≠ B3 := by omega
      have hcK := hc7
      clear hc7 hc6 g1 gg7 o7 o5
      have s1 : w7.cell? ⟨B3, 1, none⟩ = _ := (C3.2 1).1
      have fs := (C3.2 1).2
      obtain ⟨Y, hY⟩ : ∃ Y, Y = w7.setCell ⟨B3, 1, none⟩ (.slice (some ⟨g7, 0, none⟩) k7 c7) := ⟨_, rfl⟩
      have bY : Below w.heap.size w7 Y := by rw [hY]; exact (Below.refl _ _).setCell (show w.heap.size ≤ B3 from zB3') _
      have gY : w7.grownBy Y (some B3) := by rw [hY]; exact set_grown _ _ _ _
      have C3' := C3.set 1 (by simp) (.slice (some ⟨g7, 0, none⟩) k7 c7)
      rw [← hY] at C3'
      have C0' := C0.grown gY (fun x => hBne (by cases x; rfl))
      have hcX1 := hcK.below bY ha hcl
      have gK1 := grown_below gK bY
      have o6 := r7.kept gY (.inr (fun x => hne7 (by cases x; rfl)))
      have q6 := q5.kept gY (.inr (fun x => hg24.2 (by cases x; rfl)))
      replace hY : Hid (w7.setCell ⟨B3, 1, none⟩ (.slice (some ⟨g7, 0, none⟩) k7 c7) = Y) := hY.symm
      clear C3 C0 bY gY hcK gK r7 q5
      have l0 : Y.cell? ⟨B3, 0, none⟩ = some (.int .i64 x) := (C3'.2 0).1
      have l1 : Y.cell? ⟨B3, 1, none⟩ = some (.slice (some ⟨g7, 0, none⟩) k7 c7) := (C3'.2 1).1
      have l2 : Y.cell? ⟨B3, 2, none⟩ = some (.slice (some ⟨g4, 0, none⟩) k4 c4) := (C3'.2 2).1
      have m0 : Y.cell? ⟨B0, 0, none⟩ = some (.int .i64 0) := (C0'.2 0).1
      have f0 := (C0'.2 0).2
      have D1 := C0'.set 0 (by simp) (.int .i64 x)
      have m1 : (Y.setCell ⟨B0, 0, none⟩ (.int .i64 x)).cell? ⟨B0, 1, none⟩ = some (.slice none 0 0) := (D1.2 1).1
      have f1 := (D1.2 1).2
      have D2 := D1.set 1 (by simp) (.slice (some ⟨g7, 0, none⟩) k7 c7)
      have m2 : ((Y.setCell ⟨B0, 0, none⟩ (.int .i64 x)).setCell ⟨B0, 1, none⟩ (.slice (some ⟨g7, 0, none⟩) k7 c7)).cell? ⟨B0, 2, none⟩ = some (.slice none 0 0) := (D2.2 2).1
      have f2 := (D2.2 2).2
      have D3 := D2.set 2 (by simp) (.slice (some ⟨g4, 0, none⟩) k4 c4)
      obtain ⟨X3, hX3⟩ : ∃ X3, X3 = ((Y.setCell ⟨B0, 0, none⟩ (.int .i64 x)).setCell ⟨B0, 1, none⟩ (.slice (some ⟨g7, 0, none⟩) k7 c7)).setCell ⟨B0, 2, none⟩ (.slice (some ⟨g4, 0, none⟩) k4 c4) := ⟨_, rfl⟩
      have bX : Below w.heap.size Y X3 := by rw [hX3]; exact (((Below.refl _ _).setCell (show w.heap.size ≤ B0 by omega) _).setCell (show w.heap.size ≤ B0 by omega) _).setCell (show w.heap.size ≤ B0 by omega) _
      have oX := ownsRow_setCell_below (a := ⟨B0, 2, none⟩) (ownsRow_setCell_below (a := ⟨B0, 1, none⟩) (ownsRow_setCell_below (a := ⟨B0, 0, none⟩) o6 (show B0 < B0 + 1 by omega) (.int .i64 x)) (show B0 < B0 + 1 by omega) (.slice (some ⟨g7, 0, none⟩) k7 c7)) (show B0 < B0 + 1 by omega) (.slice (some ⟨g4, 0, none⟩) k4 c4)
      rw [← hX3] at oX
      have qX := ownsRow_setCell_below (a := ⟨B0, 2, none⟩) (ownsRow_setCell_below (a := ⟨B0, 1, none⟩) (ownsRow_setCell_below (a := ⟨B0, 0, none⟩) q6 (show B0 < B0 + 1 by omega) (.int .i64 x)) (show B0 < B0 + 1 by omega) (.slice (some ⟨g7, 0, none⟩) k7 c7)) (show B0 < B0 + 1 by omega) (.slice (some ⟨g4, 0, none⟩) k4 c4)
      rw [← hX3] at qX
      rw [← hX3] at D3
      have y0 : X3.cell? ⟨B0, 0, none⟩ = some (.int .i64 x) := (D3.2 0).1
      have y1 : X3.cell? ⟨B0, 1, none⟩ = some (.slice (some ⟨g7, 0, none⟩) k7 c7) := (D3.2 1).1
      have y2 : X3.cell? ⟨B0, 2, none⟩ = some (.slice (some ⟨g4, 0, none⟩) k4 c4) := (D3.2 2).1
      have hcX := hcX1.below bX ha hcl
      have gX := grown_below gK1 bX
      replace hX3 : Hid (((Y.setCell ⟨B0, 0, none⟩ (.int .i64 x)).setCell ⟨B0, 1, none⟩ (.slice (some ⟨g7, 0, none⟩) k7 c7)).setCell ⟨B0, 2, none⟩ (.slice (some ⟨g4, 0, none⟩) k4 c4) = X3) := hX3.symm
      clear D1 D2 D3 bX hcX1 gK1 C3' C0' o6 q6
      go_wp2_with (first | rw [hY.out] | rw [hX3.out])
      refine bodyPost_ret (v := .agg #[.int .i64 x, .slice (some ⟨g7, 0, none⟩) k7 c7, .slice (some ⟨g4, 0, none⟩) k4 c4]) ?_ rfl ⟨_, _, _, _, _, _, _, _, _, rfl, ⟨by omega, hk7, by omega, by7, by4⟩, .of (owns_mono oX (show w.heap.size ≤ B0 + 1 by omega)), .of (owns_mono qX (show w.heap.size ≤ B0 + 1 by omega)), hcX, gX⟩
      simp only [results, Tryd.f39]
      go_simp
    · have d1 : (t == 1) = false := by simpa using t1
      by_cases t2 : t = 2
      · subst t2
        have hb0 : Below w6.heap.size w6 (w6.alloc (.cells #[.int .i64 15, .int .i64 16, .int .i64 1516, .int .i64 1517] 3)) := (Below.refl _ _).alloc (Nat.le_refl _) _
        have hlw := hc6.lt
        go_wp2_with (fail)
        refine (l1PickInt_any a p n c xs w6.heap.size 4 [15, 16, 1516, 1517] _ (by omega) (by omega) rfl (lit_ints w6 [15, 16, 1516, 1517] 3) (by omega) (hc6.below hb0 hlw hc6.code_lt)).mono ?_
        rintro e w7 ⟨z, hz, rfl, hc7, gg7⟩
        replace C0 := (C0.on hb0).grown gg7 hB0
        replace C3 := (C3.on hb0).grown gg7 hB3
        replace o5 := owns_cur (owns_below o5 hb0) gg7 (by omega)
        replace q5 := owns_cur (owns_below q5 hb0) gg7 (by omega)
        have gK0 := grown_trans (grown_below g1 (hb0.mono g1.size)) gg7
        clear hb0 gg7 hc6
        obtain ⟨Z, hZ, eZ⟩ : ∃ Z : Nat, Z ≤ 1517 ∧ z = (Z : Int) := ⟨z.toNat, by simp only [List.mem_cons, List.not_mem_nil, or_false] at hz; omega, by simp only [List.mem_cons, List.not_mem_nil, or_false] at hz; omega⟩
        subst eZ
        clear hz
        have hl7 := hc7.lt
        go_wp2_with (fail)
        refine (l1DrawJust_is a p n c xs Z _ (by omega) hc7).mono ?_
        rintro e w8 ⟨g8, k8, c8, y8, rfl, hk8, o8, by8, hc8, gg8⟩
        subst hk8
        replace C0 := C0.grown gg8 hB0
        have z7 := C3.1
        replace C3 := C3.grown gg8 hB3
        replace o5 := owns_cur o5 gg8 (by omega)
        have gK := grown_trans gK0 gg8
        have hg8 := (o8.1.lt g8 rfl).1
        have r8 := owns_mono o8.1 (show B0 + 1 ≤ w7.heap.size by omega)
        have hne8 : g8 ≠ B3 := by omega
        have hcK := hc8
        clear hc8 hc7 gK0 gg8 o8 q5
        have s2 : w8.cell? ⟨B3, 2, none⟩ = _ := (C3.2 2).1
        have fs := (C3.2 2).2
        obtain ⟨Y, hY⟩ : ∃ Y, Y = w8.setCell ⟨B3, 2, none⟩ (.slice (some ⟨g8, 0, none⟩) k8 c8) := ⟨_, rfl⟩
        have bY : Below w.heap.size w8 Y := by rw [hY]; exact (Below.refl _ _).setCell (show w.heap.size ≤ B3 from zB3') _
        have gY : w8.grownBy Y (some B3) := by rw [hY]; exact set_grown _ _ _ _
        have C3' := C3.set 2 (by simp) (.slice (some ⟨g8, 0, none⟩) k8 c8)
        rw [← hY] at C3'
        have C0' := C0.grown gY (fun x => hBne (by cases x; rfl))
        have hcX1 := hcK.below bY ha hcl
        have gK1 := grown_below gK bY
        have o6 := o5.kept gY (.inr (fun x => hg24.1 (by cases x; rfl)))
        have q6 := r8.kept gY (.inr (fun x => hne8 (by cases x; rfl)))
        replace hY : Hid (w8.setCell ⟨B3, 2, none⟩ (.slice (some ⟨g8, 0, none⟩) k8 c8) = Y) := hY.symm
        clear C3 C0 bY gY hcK gK o5 r8
        have l0 : Y.cell? ⟨B3, 0, none⟩ = some (.int .i64 x) := (C3'.2 0).1
        have l1 : Y.cell? ⟨B3, 1, none⟩ = some (.slice (some ⟨g2, 0, none⟩) 32 c2) := (C3'.2 1).1
        have l2 : Y.cell? ⟨B3, 2, none⟩ = some (.slice (some ⟨g8, 0, none⟩) k8 c8) := (C3'.2 2).1
        have m0 : Y.cell? ⟨B0, 0, none⟩ = some (.int .i64 0) := (C0'.2 0).1
        have f0 := (C0'.2 0).2
        have D1 := C0'.set 0 (by simp) (.int .i64 x)
        have m1 : (Y.setCell ⟨B0, 0, none⟩ (.int .i64 x)).cell? ⟨B0, 1, none⟩ = some (.slice none 0 0) := (D1.2 1).1
        have f1 := (D1.2 1).2
        have D2 := D1.set 1 (by simp) (.slice (some ⟨g2, 0, none⟩) 32 c2)
        have m2 : ((Y.setCell ⟨B0, 0, none⟩ (.int .i64 x)).setCell ⟨B0, 1, none⟩ (.slice (some ⟨g2, 0, none⟩) 32 c2)).cell? ⟨B0, 2, none⟩ = some (.slice none 0 0) := (D2.2 2).1
        have f2 := (D2.2 2).2
        have D3 := D2.set 2 (by simp) (.slice (some ⟨g8, 0, none⟩) k8 c8)
        obtain ⟨X3, hX3⟩ : ∃ X3, X3 = ((Y.setCell ⟨B0, 0, none⟩ (.int .i64 x)).setCell ⟨B0, 1, none⟩ (.slice (some ⟨g2, 0, none⟩) 32 c2)).setCell ⟨B0, 2, none⟩ (.slice (some ⟨g8, 0, none⟩) k8 c8) := ⟨_, rfl⟩
        have bX : Below w.heap.size Y X3 := by rw [hX3]; exact (((Below.refl _ _).setCell (show w.heap.size ≤ B0 by omega) _).setCell (show w.heap.size ≤ B0 by omega) _).setCell (show w.heap.size ≤ B0 by omega) _
        have oX := ownsRow_setCell_below (a := ⟨B0, 2, none⟩) (ownsRow_setCell_below (a := ⟨B0, 1, none⟩) (ownsRow_setCell_below (a := ⟨B0, 0, none⟩) o6 (show B0 < B0 + 1 by omega) (.int .i64 x)) (show B0 < B0 + 1 by omega) (.slice (some ⟨g2, 0, none⟩) 32 c2)) (show B0 < B0 + 1 by omega) (.slice (some ⟨g8, 0, none⟩) k8 c8)
        rw [← hX3] at oX
        have qX := ownsRow_setCell_below (a := ⟨B0, 2, none⟩) (ownsRow_setCell_below (a := ⟨B0, 1, none⟩) (ownsRow_setCell_below (a := ⟨B0, 0, none⟩) q6 (show B0 < B0 + 1 by omega) (.int .i64 x)) (show B0 < B0 + 1 by omega) (.slice (some ⟨g2, 0, none⟩) 32 c2)) (show B0 < B0 + 1 by omega) (.slice (some ⟨g8, 0, none⟩) k8 c8)
        rw [← hX3] at qX
        rw [← hX3] at D3
        have y0 : X3.cell? ⟨B0, 0, none⟩ = some (.int .i64 x) := (D3.2 0).1
        have y1 : X3.cell? ⟨B0, 1, none⟩ = some (.slice (some ⟨g2, 0, none⟩) 32 c2) := (D3.2 1).1
        have y2 : X3.cell? ⟨B0, 2, none⟩ = some (.slice (some ⟨g8, 0, none⟩) k8 c8) := (D3.2 2).1
        have hcX := hcX1.below bX ha hcl
        have gX := grown_below gK1 bX
        replace hX3 : Hid (((Y.setCell ⟨B0, 0, none⟩ (.int .i64 x)).setCell ⟨B0, 1, none⟩ (.slice (some ⟨g2, 0, none⟩) 32 c2)).setCell ⟨B0, 2, none⟩ (.slice (some ⟨g8, 0, none⟩) k8 c8) = X3) := hX3.symm
        clear D1 D2 D3 bX hcX1 gK1 C3' C0' o6 q6
        go_wp2_with (first | rw [hY.out] | rw [hX3.out])
        refine bodyPost_ret (v := .agg #[.int .i64 x, .slice (some ⟨g2, 0, none⟩) 32 c2, .slice (some ⟨g8, 0, none⟩) k8 c8]) ?_ rfl ⟨_, _, _, _, _, _, _, _, _, rfl, ⟨by omega, by omega, by omega, by2, by8⟩, .of (owns_mono oX (show w.heap.size ≤ B0 + 1 by omega)), .of (owns_mono qX (show w.heap.size ≤ B0 + 1 by omega)), hcX, gX⟩
        simp only [results, Tryd.f39]
        go_simp
      · have d2 : (t == 2) = false := by simpa using t2
        have l0 : w6.cell? ⟨B3, 0, none⟩ = some (.int .i64 x) := (C3.2 0).1
        have l1 : w6.cell? ⟨B3, 1, none⟩ = some (.slice (some ⟨g2, 0, none⟩) 32 c2) := (C3.2 1).1
        have l2 : w6.cell? ⟨B3, 2, none⟩ = some (.slice (some ⟨g4, 0, none⟩) k4 c4) := (C3.2 2).1
        have m0 : w6.cell? ⟨B0, 0, none⟩ = some (.int .i64 0) := (C0.2 0).1
        have f0 := (C0.2 0).2
        have D1 := C0.set 0 (by simp) (.int .i64 x)
        have m1 : (w6.setCell ⟨B0, 0, none⟩ (.int .i64 x)).cell? ⟨B0, 1, none⟩ = some (.slice none 0 0) := (D1.2 1).1
        have f1 := (D1.2 1).2
        have D2 := D1.set 1 (by simp) (.slice (some ⟨g2, 0, none⟩) 32 c2)
        have m2 : ((w6.setCell ⟨B0, 0, none⟩ (.int .i64 x)).setCell ⟨B0, 1, none⟩ (.slice (some ⟨g2, 0, none⟩) 32 c2)).cell? ⟨B0, 2, none⟩ = some (.slice none 0 0) := (D2.2 2).1
        have f2 := (D2.2 2).2
        have D3 := D2.set 2 (by simp) (.slice (some ⟨g4, 0, none⟩) k4 c4)
        obtain ⟨X3, hX3⟩ : ∃ X3, X3 = ((w6.setCell ⟨B0, 0, none⟩ (.int .i64 x)).setCell ⟨B0, 1, none⟩ (.slice (some ⟨g2, 0, none⟩) 32 c2)).setCell ⟨B0, 2, none⟩ (.slice (some ⟨g4, 0, none⟩) k4 c4) := ⟨_, rfl⟩
        have bX : Below w.heap.size w6 X3 := by rw [hX3]; exact (((Below.refl _ _).setCell (show w.heap.size ≤ B0 by omega) _).setCell (show w.heap.size ≤ B0 by omega) _).setCell (show w.heap.size ≤ B0 by omega) _
        have oX := ownsRow_setCell_below (a := ⟨B0, 2, none⟩) (ownsRow_setCell_below (a := ⟨B0, 1, none⟩) (ownsRow_setCell_below (a := ⟨B0, 0, none⟩) o5 (show B0 < B0 + 1 by omega) (.int .i64 x)) (show B0 < B0 + 1 by omega) (.slice (some ⟨g2, 0, none⟩) 32 c2)) (show B0 < B0 + 1 by omega) (.slice (some ⟨g4, 0, none⟩) k4 c4)
        rw [← hX3] at oX
        have qX := ownsRow_setCell_below (a := ⟨B0, 2, none⟩) (ownsRow_setCell_below (a := ⟨B0, 1, none⟩) (ownsRow_setCell_below (a := ⟨B0, 0, none⟩) q5 (show B0 < B0 + 1 by omega) (.int .i64 x)) (show B0 < B0 + 1 by omega) (.slice (some ⟨g2, 0, none⟩) 32 c2)) (show B0 < B0 + 1 by omega) (.slice (some ⟨g4, 0, none⟩) k4 c4)
        rw [← hX3] at qX
        rw [← hX3] at D3
        have y0 : X3.cell? ⟨B0, 0, none⟩ = some (.int .i64 x) := (D3.2 0).1
        have y1 : X3.cell? ⟨B0, 1, none⟩ = some (.slice (some ⟨g2, 0, none⟩) 32 c2) := (D3.2 1).1
        have y2 : X3.cell? ⟨B0, 2, none⟩ = some (.slice (some ⟨g4, 0, none⟩) k4 c4) := (D3.2 2).1
        have hcX := hc6.below bX ha hcl
        have gX := grown_below g1 bX
        replace hX3 : Hid (((w6.setCell ⟨B0, 0, none⟩ (.int .i64 x)).setCell ⟨B0, 1, none⟩ (.slice (some ⟨g2, 0, none⟩) 32 c2)).setCell ⟨B0, 2, none⟩ (.slice (some ⟨g4, 0, none⟩) k4 c4) = X3) := hX3.symm
        clear D1 D2 D3 bX hc6 g1 C3 C0 o5 q5
        go_wp2_with (rw [hX3.out])
        refine bodyPost_ret (v := .agg #[.int .i64 x, .slice (some ⟨g2, 0, none⟩) 32 c2, .slice (some ⟨g4, 0, none⟩) k4 c4]) ?_ rfl ⟨_, _, _, _, _, _, _, _, _, rfl, ⟨by omega, by omega, by omega, by2, by4⟩, .of (owns_mono oX (show w.heap.size ≤ B0 + 1 by omega)), .of (owns_mono qX (show w.heap.size ≤ B0 + 1 by omega)), hcX, gX⟩
        simp only [results, Tryd.f39]
        go_simp

end Go.Proofs.YtdjdanpicbaieaaDoor

namespace Go.Proofs.YtdjdanpicbaieaaDoor
open Go.RowKit
set_option maxRecDepth 100000

/-- What a letter's marking leaves of a row that lies elsewhere. -/
theorem Own.past {e' : Nat} {w wa w1 w' : World} {lo hi lo' hi' lo0 hi0 : Nat} {u v v' : Value} {n m k : Nat} {xs ys zs : List Int} (h : Own e' w lo0 hi0 u k zs) (b : Below w.heap.size w wa) (g1 : wa.grownBy w1 v.ownBlock) (g2 : w1.grownBy w' v'.ownBlock)
    (hp : Own e' w lo hi v n xs) (hq : Own e' w lo' hi' v' m ys) (hd : hi ≤ lo' ∨ hi' ≤ lo) (d1 : hi0 ≤ lo ∨ hi ≤ lo0) (d2 : hi0 ≤ lo' ∨ hi' ≤ lo0) : Own e' w' lo0 hi0 u k zs :=
  ((h.on b).far g1 (hp.on b) d1).far g2 ((hq.on b).far g1 (hp.on b) hd.symm) d2
theorem marks_below {e' : Nat} {a w wa w1 w' : World} {lo hi lo' hi' : Nat} {v v' : Value} {n m : Nat} {xs ys : List Int} (h : Below a.heap.size a w) (b : Below w.heap.size w wa) (g1 : wa.grownBy w1 v.ownBlock) (g2 : w1.grownBy w' v'.ownBlock)
    (hp : Own e' w lo hi v n xs) (hq : Own e' w lo' hi' v' m ys) (hd : hi ≤ lo' ∨ hi' ≤ lo) (h1 : a.heap.size ≤ lo) (h2 : a.heap.size ≤ lo') : Below a.heap.size a w' :=
  below_mark (below_mark (below_on h b) g1 (hp.on b) h1) g2 ((hq.on b).far g1 (hp.on b) hd.symm) h2
theorem Cells.far {e' : Nat} {w w' : World} {g lo hi : Nat} {u : Value} {m : Nat} {ys : List Int} {A : Array Value} (h : Cells w g A) (hg : w.grownBy w' u.ownBlock) (hu : Own e' w lo hi u m ys) (hd : g < lo ∨ hi ≤ g) : Cells w' g A :=
  h.grown hg fun x => by have h1 := hu.2 g x.symm; have h2 := (hu.1.lt g x.symm).1; omega
theorem Cells.past {e' : Nat} {w wa w1 w' : World} {g lo hi lo' hi' : Nat} {v v' : Value} {n m : Nat} {xs ys : List Int} {A : Array Value} (h : Cells w g A) (b : Below w.heap.size w wa) (g1 : wa.grownBy w1 v.ownBlock) (g2 : w1.grownBy w' v'.ownBlock)
    (hp : Own e' w lo hi v n xs) (hq : Own e' w lo' hi' v' m ys) (hd : hi ≤ lo' ∨ hi' ≤ lo) (d1 : g < lo ∨ hi ≤ g) (d2 : g < lo' ∨ hi' ≤ g) : Cells w' g A :=
  ((h.on b).far g1 (hp.on b) d1).far g2 ((hq.on b).far g1 (hp.on b) hd.symm) d2
theorem marks_size {w wa w1 w' : World} {r r' : Option Nat} (b : Below w.heap.size w wa) (g1 : wa.grownBy w1 r) (g2 : w1.grownBy w' r') : w.heap.size ≤ w'.heap.size := Nat.le_trans b.size (Nat.le_trans g1.size g2.size)

end Go.Proofs.YtdjdanpicbaieaaDoor

namespace Go.Proofs.YtdjdanpicbaieaaDoor
open Go.RowKit
set_option maxRecDepth 100000

/-- What a right letter is. -/
def letOk (e : Int) (n m : Nat) : Prop := 0 ≤ e ∧ e ≤ 65535 ∧ n = 32 ∧ 16 ≤ m ∧ m ≤ 1516
instance (e : Int) (n m : Nat) : Decidable (letOk e n m) := by unfold letOk; infer_instance

theorem in_yes (x lo hi : Int) (X : World) (h : lo ≤ x ∧ x ≤ hi) : Calls Tryd.prog 29 #[.int .i64 x, .int .i64 lo, .int .i64 hi] X fun e w' => e = .returned (.bool true) ∧ w' = X := by
  have h1 := h.1
  have h2 := h.2
  go_enter Tryd.func29, Tryd.ntmps29
  go_wp2_with (fail)
  go_ret
  exact ⟨rfl, rfl⟩
theorem in_no (x lo hi : Int) (X : World) (h : ¬ (lo ≤ x ∧ x ≤ hi)) : Calls Tryd.prog 29 #[.int .i64 x, .int .i64 lo, .int .i64 hi] X fun e w' => e = .returned (.bool false) ∧ w' = X := by
  by_cases h1 : lo ≤ x
  · have h2 : ¬ x ≤ hi := fun k => h ⟨h1, k⟩
    clear h
    go_enter Tryd.func29, Tryd.ntmps29
    go_wp2_with (fail)
    go_ret
    exact ⟨by simp, rfl⟩
  · clear h
    go_enter Tryd.func29, Tryd.ntmps29
    go_wp2_with (fail)
    go_ret
    exact ⟨by simp, rfl⟩

set_option maxHeartbeats 2000000 in
theorem specLetterOk_any (e : Int) (p q : Option Addr) (n c m d : Nat) (w : World) (hm : m ≤ 9223372036854775807) :
    Calls Tryd.prog 28 #[.agg #[.int .i64 e, .slice p n c, .slice q m d]] w fun z w' => z = .returned (.bool (decide (letOk e n m))) ∧ Below w.heap.size w w' := by
  have kA : ∀ o, Below w.heap.size w (w.alloc o) := fun o => made_below _ _ (Below.refl _ _)
  obtain ⟨R, hR⟩ : ∃ R : Bool, R = decide (letOk e n m) := ⟨_, rfl⟩
  rw [← hR]
  replace hR : Hid (R = decide (letOk e n m)) := hR
  by_cases h1 : 0 ≤ e ∧ e ≤ 65535
  · by_cases h2 : n = 32
    · subst h2
      by_cases h3 : (16 : Int) ≤ (m : Int) ∧ (m : Int) ≤ 1516
      · have hr : R = true := by rw [hR.out]; exact decide_eq_true ⟨h1.1, h1.2, rfl, by omega, by omega⟩
        clear hR
        go_enter Tryd.func28, Tryd.ntmps28
        go_wp2_with (fail)
        refine (in_yes e 0 65535 _ h1).mono ?_
        rintro z w1 ⟨rfl, rfl⟩
        go_wp2_with (fail)
        refine (in_yes m 16 1516 _ h3).mono ?_
        rintro z w1 ⟨rfl, rfl⟩
        go_wp2_with (fail)
        go_ret
        exact ⟨by rw [hr]; rfl, kA _⟩
      · have hr : R = false := by rw [hR.out]; exact decide_eq_false fun k => h3 ⟨by have := k.2.2.2.1; omega, by have := k.2.2.2.2; omega⟩
        clear hR
        go_enter Tryd.func28, Tryd.ntmps28
        go_wp2_with (fail)
        refine (in_yes e 0 65535 _ h1).mono ?_
        rintro z w1 ⟨rfl, rfl⟩
        go_wp2_with (fail)
        refine (in_no m 16 1516 _ h3).mono ?_
        rintro z w1 ⟨rfl, rfl⟩
        go_wp2_with (fail)
        go_ret
        exact ⟨by rw [hr]; rfl, kA _⟩
    · have hr : R = false := by rw [hR.out]; exact decide_eq_false fun k => h2 k.2.2.1
      have h2' : ((n : Int) == 32) = false := by simp; omega
      clear hR h2
      go_enter Tryd.func28, Tryd.ntmps28
      go_wp2_with (fail)
      refine (in_yes e 0 65535 _ h1).mono ?_
      rintro z w1 ⟨rfl, rfl⟩
      go_wp2_with (fail)
      go_ret
      exact ⟨by rw [hr]; rfl, kA _⟩
  · have hr : R = false := by rw [hR.out]; exact decide_eq_false fun k => h1 ⟨k.1, k.2.1⟩
    clear hR
    go_enter Tryd.func28, Tryd.ntmps28
    go_wp2_with (fail)
    refine (in_no e 0 65535 _ h1).mono ?_
    rintro z w1 ⟨rfl, rfl⟩
    go_wp2_with (fail)
    go_ret
    exact ⟨by rw [hr]; rfl, kA _⟩

end Go.Proofs.YtdjdanpicbaieaaDoor

namespace Go.Proofs.YtdjdanpicbaieaaDoor
open Go.RowKit
set_option maxRecDepth 100000

set_option maxHeartbeats 2000000 in
theorem implLetterOk_any (e : Int) (p q : Option Addr) (n c m d : Nat) (w : World) (hm : m ≤ 9223372036854775807) :
    Calls Tryd.prog 27 #[.agg #[.int .i64 e, .slice p n c, .slice q m d]] w fun z w' => z = .returned (.bool (decide (letOk e n m))) ∧ Below w.heap.size w w' := by
  have kA : ∀ o, Below w.heap.size w (w.alloc o) := fun o => made_below _ _ (Below.refl _ _)
  obtain ⟨R, hR⟩ : ∃ R : Bool, R = decide (letOk e n m) := ⟨_, rfl⟩
  rw [← hR]
  replace hR : Hid (R = decide (letOk e n m)) := hR
  by_cases h1 : 0 ≤ e
  · by_cases h2 : e ≤ 65535
    · by_cases h3 : n = 32
      · subst h3
        by_cases h4 : (16 : Int) ≤ (m : Int)
        · by_cases h5 : (m : Int) - 16 ≤ 1500
          · have hr : R = true := by rw [hR.out]; exact decide_eq_true ⟨h1, h2, rfl, by omega, by omega⟩
            clear hR
            subst hr
            go_enter Tryd.func27, Tryd.ntmps27
            go_wp2_with (fail)
            go_ret
            exact ⟨rfl, kA _⟩
          · have hr : R = false := by rw [hR.out]; exact decide_eq_false fun k => h5 (by have := k.2.2.2.2; omega)
            clear hR
            subst hr
            go_enter Tryd.func27, Tryd.ntmps27
            go_wp2_with (fail)
            go_ret
            exact ⟨rfl, kA _⟩
        · have hr : R = false := by rw [hR.out]; exact decide_eq_false fun k => h4 (by have := k.2.2.2.1; omega)
          clear hR
          subst hr
          go_enter Tryd.func27, Tryd.ntmps27
          go_wp2_with (fail)
          go_ret
          exact ⟨rfl, kA _⟩
      · have hr : R = false := by rw [hR.out]; exact decide_eq_false fun k => h3 k.2.2.1
        have h2' : ((n : Int) == 32) = false := by simp; omega
        clear hR h3
        subst hr
        go_enter Tryd.func27, Tryd.ntmps27
        go_wp2_with (fail)
        go_ret
        exact ⟨rfl, kA _⟩
    · have hr : R = false := by rw [hR.out]; exact decide_eq_false fun k => h2 k.2.1
      clear hR
      subst hr
      go_enter Tryd.func27, Tryd.ntmps27
      go_wp2_with (fail)
      go_ret
      exact ⟨rfl, kA _⟩
  · have hr : R = false := by rw [hR.out]; exact decide_eq_false fun k => h1 k.1
    clear hR
    subst hr
    go_enter Tryd.func27, Tryd.ntmps27
    go_wp2_with (fail)
    go_ret
    exact ⟨rfl, kA _⟩

end Go.Proofs.YtdjdanpicbaieaaDoor

namespace Go.Proofs.YtdjdanpicbaieaaDoor
open Go.RowKit
set_option maxRecDepth 100000

/-- Two rows that lie apart. -/
def Pair (w' : World) (lo : Nat) (p q : Option Addr) (c d n m : Nat) (xs ys : List Int) : Prop :=
  ∃ l1 h1 l2 h2, Own 5 w' l1 h1 (.slice p n c) n xs ∧ Own 5 w' l2 h2 (.slice q m d) m ys ∧ (lo ≤ l1 ∧ h1 ≤ w'.heap.size) ∧ (lo ≤ l2 ∧ h2 ≤ w'.heap.size) ∧ (h1 ≤ l2 ∨ h2 ≤ l1)
theorem Pair.none (w' : World) (lo : Nat) (h : lo ≤ w'.heap.size) : Pair w' lo none none 0 0 0 0 [] [] :=
  ⟨lo, lo, lo, lo, ⟨⟨rfl, .inl ⟨rfl, rfl⟩⟩, fun k hk => by cases hk⟩, ⟨⟨rfl, .inl ⟨rfl, rfl⟩⟩, fun k hk => by cases hk⟩, ⟨Nat.le_refl _, h⟩, ⟨Nat.le_refl _, h⟩, .inl (Nat.le_refl _)⟩
/-- An empty row. -/
def Emp (w : World) (B : Nat) : Prop := w.heap[B]? = some (.cells #[] 5 (0, 0))
/-- A row of bytes that is known whole. -/
def RowAt (w : World) (g cap n : Nat) (ys : List Int) : Prop := w.ownsRow g 5 1 (.slice (some ⟨g, 0, none⟩) n cap) n (ys.map (Value.int .u8))
theorem Emp.lt {w : World} {B : Nat} (h : Emp w B) : B < w.heap.size := (Array.getElem?_eq_some_iff.1 h).1
theorem emp_made (w : World) (B : Nat) (h : w.heap.size = B) : Emp (w.alloc (.cells #[] 5)) B := by subst h; exact heap_made _ _
theorem emp_below {w w' : World} {B : Nat} (h : Emp w B) (b : Below w.heap.size w w') : Emp w' B := (b.block B h.lt).trans h
theorem emp_alloc {w : World} {B : Nat} (h : Emp w B) (o : Obj) : Emp (w.alloc o) B := emp_below h (made_below _ _ (Below.refl _ _))
theorem emp_drew {w : World} {B : Nat} (h : Emp w B) : Emp w.drew B := h
theorem emp_grown {w w' : World} {B B' : Nat} (h : Emp w B) (g : w.grownBy w' (some B')) (ne : B ≠ B') : Emp w' B := (g.block B h.lt (fun e => ne (Option.some.inj e))).trans h
theorem rowAt_below {w w' : World} {g cap n : Nat} {ys : List Int} (h : RowAt w g cap n ys) (b : Below w.heap.size w w') : RowAt w' g cap n ys := owns_below h b
theorem rowAt_alloc {w : World} {g cap n : Nat} {ys : List Int} (h : RowAt w g cap n ys) (o : Obj) : RowAt (w.alloc o) g cap n ys := rowAt_below h (made_below _ _ (Below.refl _ _))
theorem rowAt_drew {w : World} {g cap n : Nat} {ys : List Int} (h : RowAt w g cap n ys) : RowAt w.drew g cap n ys := rowAt_below h (Below.refl _ _).drew
theorem rowAt_grown {w w' : World} {g cap n B' : Nat} {ys : List Int} (h : RowAt w g cap n ys) (hg : w.grownBy w' (some B')) (ne : g ≠ B') : RowAt w' g cap n ys := h.kept hg (.inr fun e => ne (Option.some.inj e))
theorem RowAt.own {w : World} {g cap n : Nat} {ys : List Int} (h : RowAt w g cap n ys) : Own 5 w g (g + 1) (.slice (some ⟨g, 0, none⟩) n cap) n ys := ⟨h, fun k hk => by cases hk; exact Nat.lt_succ_self _⟩

theorem step_fresh {P : Program} {ops : Array Oper} {o : Oper} {a : Act} {K : Act → World → Prop} {Q : Exit → Act → World → Prop} {E : Prop} {i : TypeInfo} {wr w0 : World} {B m c lo : Nat} {p : Option Addr} {ys : List Int}
    (hi : P.info? 5 = some i) (hz : i.zero = some (.int .u8 0)) (hsize : i.size = 1) (hby : i.bytes = 1) (s y : Operand) (t : TypeId) (ht : P.underlying t = some (.slice 5)) (hgd : o.guard = none) (ho : o.op = .call { callee := .builtin .append, args := #[s, y], argTypes := #[t, t] }) (hs : a.eval s = .slice (some ⟨B, 0, none⟩) 0 0) (hy : a.eval y = .slice p m c)
    (hE : Emp wr B) (hin : BytesIn wr p m ys) (hl : ys.length = m) (hm : 0 < m) (hm' : m ≤ 1048576) (hb : Below lo w0 wr) (hlo : lo ≤ B)
    (h : ∀ g cap w', RowAt w' g cap m ys → (g = B ∨ g = wr.heap.size) → g < w'.heap.size → wr.heap.size ≤ w'.heap.size → wr.grownBy w' (some B) → Below lo w0 w' → K (a.put o.dst (.slice (some ⟨g, 0, none⟩) m cap)) w') :
    if Region.wanted o (yielded ops a.tmps) = true then Oper.wp P o a wr K Q else E := by
  obtain ⟨b, of, rfl, hc⟩ := hin hm
  have hown : wr.ownsRow B 5 1 (.slice (some ⟨B, 0, none⟩) 0 0) 0 (([] : List Int).map (Value.int .u8)) := ⟨rfl, .inr ⟨B, 0, #[], rfl, Nat.le_refl _, hE, Nat.le_refl _, Nat.zero_le _, rfl, rfl⟩⟩
  refine step_append_lies _ hgd s y t ho B 5 i (.int .u8 0) 1 1 ht hi hz hsize hby rfl (by decide) _ 0 _ hs hown ⟨b, of, none⟩ m c (ys.map (Value.int .u8)) hy (by simp [hl]) (fun j u hu => ?_) (fun u hu => ?_) hm (by unfold maxLen; omega) (by omega) (Nat.le_of_lt hE.lt) _ rfl fun g cap w' ho' hg hgg hlt => ?_
  · rw [List.getElem?_map] at hu
    obtain ⟨v, hv, rfl⟩ := Option.map_eq_some_iff.1 hu
    have hj := (List.getElem?_eq_some_iff.1 hv).1
    rw [Addr.add_lit, hc j (by omega), List.getD_eq_getElem?_getD, hv]
    rfl
  · obtain ⟨v, _, rfl⟩ := List.mem_map.1 hu
    rfl
  · rw [Nat.zero_add] at ho' ⊢
    have hrow : RowAt w' g cap m ys := by
      refine ⟨ho'.1, .inr ?_⟩
      rcases ho'.2 with ⟨hv, _⟩ | ⟨g', cap', cur, hv, h1, h2, h3, h4, h5, h6⟩
      · cases hv
      · cases hv
        exact ⟨g, cap, cur, rfl, Nat.le_refl _, h2, h3, h4, h5, h6⟩
    exact h g cap w' hrow (hgg.imp (fun e => (Option.some.inj e).symm) id) hlt hg.size hg (hb.grown hg (Nat.le_of_lt (Nat.lt_of_le_of_lt hlo hE.lt)) fun k hk => by cases hk; exact hlo)

end Go.Proofs.YtdjdanpicbaieaaDoor
