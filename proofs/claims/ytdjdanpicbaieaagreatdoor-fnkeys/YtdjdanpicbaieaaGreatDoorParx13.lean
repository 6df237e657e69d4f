/-
  The program's copied: a copy of bytes. Condition: bytes that lie there.
  The cells of a block of one's own: what lies there, behind stores into it and behind what else is done. No condition beyond each fact's own.
-/
import Derived.Test.YtdjdanpicbaieaaGreatDoorParx02
import Derived.Test.YtdjdanpicbaieaaGreatDoorParx01
import Derived.Laws.CopyOwn
namespace Go.Proofs.YtdjdanpicbaieaaGreatDoor
open Go.RowKit
set_option maxRecDepth 100000

theorem heap_made (w : World) (o : Obj) : (w.alloc o).heap[w.heap.size]? = some o := by
  show (w.heap.push o)[w.heap.size]? = some o
  simp
theorem made_below (w : World) (o : Obj) {w' : World} (b : Below (w.alloc o).heap.size (w.alloc o) w') : Below w.heap.size w w' :=
  ((Below.refl _ _).alloc (Nat.le_refl _) o).trans (b.mono (by simp))

theorem makeM (Z : Nat) (hZ : Z ≤ 16777216) (W : World) : (Instr.makeSlice 22 (.int .i64 (Z : Int)) (.int .i64 (Z : Int))).run Tryz.prog W = .ok (.slice (some ⟨W.heap.size, 0, none⟩) Z Z) (W.alloc (.cells (madeCells #[.int .u8 0] Z) 5)) := by
  obtain ⟨i0, hi, hz0, hz1, hz2⟩ := info_parts infoByte
  have := run_makeSlice (P := Tryz.prog) W 22 5 i0 (.int .u8 0) Tryz.underlying22 hi hz0 .i64 .i64 Z Z (by omega) (by omega) (by rw [hz1]; simp; omega) (by rw [hz2]; omega) (by omega)
  simpa [hz1, Value.cells] using this
/-- A row that is made, as a list. -/
def noughtV (Z : Nat) : List Value := List.replicate Z (.int .u8 0)
theorem noughtV_length (Z : Nat) : (noughtV Z).length = Z := by simp [noughtV]
theorem madeM (Z : Nat) : madeCells #[Value.int .u8 0] Z = (noughtV Z).toArray := by
  have e : (madeCells #[Value.int .u8 0] Z).toList = noughtV Z := toList_madeCells_one _ _
  rw [← e]
/-- A row that is known whole is owned. -/
theorem row_own {w : World} {lo g n : Nat} {xs : List Int} (hg : w.heap[g]? = some (.cells (xs.map (Value.int .u8)).toArray 5 (0, 0))) (hlo : lo ≤ g) (hx : xs.length = n) (hn : n ≤ 1099511627) : Own 5 w lo w.heap.size (.slice (some ⟨g, 0, none⟩) n n) n xs :=
  .of ⟨by simp [hx], .inr ⟨g, n, _, rfl, hlo, hg, Nat.le_refl _, by unfold maxLen; omega, by simp [hx], by simp [hx, List.take_of_length_le]⟩⟩
/-- The cells of bytes, where there are some. -/
theorem in_cells {w : World} {p : Option Addr} {n : Nat} {xs : List Int} (h : BytesIn w p n xs) (hx : xs.length = n) (h0 : 0 < (xs.map (Value.int .u8)).length) : ∃ ad, p = some ad ∧ ∀ j v, (xs.map (Value.int .u8))[j]? = some v → w.cell? (ad.add j) = some v := by
  obtain ⟨b, o, rfl, hc⟩ := h (by simpa [hx] using h0)
  refine ⟨⟨b, o, none⟩, rfl, fun j v hv => ?_⟩
  rw [List.getElem?_map] at hv
  obtain ⟨u, hu, rfl⟩ := Option.map_eq_some_iff.1 hv
  have hj := (List.getElem?_eq_some_iff.1 hu).1
  rw [Addr.add_lit, hc j (by omega), List.getD_eq_getElem?_getD, hu]
  rfl
theorem u8_one (xs : List Int) : ∀ v ∈ xs.map (Value.int .u8), v.oneCell' = true := fun v hv => by
  obtain ⟨u, _, rfl⟩ := List.mem_map.1 hv
  rfl

set_option maxHeartbeats 2000000 in
theorem copied_any (p : Option Addr) (n c : Nat) (xs : List Int) (w : World) (hn : n ≤ 1048576) (hx : xs.length = n) (h : BytesIn w p n xs) :
    Calls Tryz.prog 49 #[.slice p n c] w fun e w' => ∃ p' c', e = .returned (.slice p' n c') ∧ Own 5 w' w.heap.size w'.heap.size (.slice p' n c') n xs ∧ Below w.heap.size w w' := by
  obtain ⟨i0, hi, hz0, hz1, hz2⟩ := info_parts infoByte
  have hs5 : (Tryz.prog.info? 5).map (·.size) = some 1 := by rw [hi]; simp [hz1]
  have hmk := fun W => makeM n (by omega) W
  rw [madeM] at hmk
  have ba : ∀ o, Below w.heap.size w (w.alloc o) := fun o => made_below _ _ (Below.refl _ _)
  have hrow : (w.alloc (.cells (noughtV n).toArray 5)).heap[w.heap.size]? = some (.cells (noughtV n).toArray 5 (0, 0)) := heap_made _ _
  obtain ⟨Z, hZ⟩ : ∃ Z, Z = noughtV n := ⟨_, rfl⟩
  have hZl : Z.length = n := by rw [hZ, noughtV_length]
  rw [← hZ] at hmk hrow
  obtain ⟨V, hV⟩ : ∃ V, V = xs.map (Value.int .u8) := ⟨_, rfl⟩
  have hVl : V.length = n := by rw [hV]; simpa using hx
  have hpos : ∀ X, Below w.heap.size w X → 0 < V.length → ∃ ad, p = some ad ∧ ∀ j v, V[j]? = some v → X.cell? (ad.add j) = some v := fun X hX h0 => by rw [hV] at h0 ⊢; exact in_cells (in_below h hX) hx h0
  have hone : ∀ v ∈ V, v.oneCell' = true := by rw [hV]; exact u8_one xs
  have hfin : Hid (splice Z 0 V = V) := by
    show splice Z 0 V = V
    rw [splice, List.take_zero, List.nil_append, Nat.zero_add, List.drop_of_length_le (by omega), List.append_nil]
  replace hV : Hid (V = xs.map (Value.int .u8)) := hV
  clear hZ hi hz0 hz1 hz2 h
  go_enter Tryz.func49, Tryz.ntmps49
  go_wp2_with (refine wpList_copy_splice (by rfl) (.tmp 7) (.tmp 8) 22 22 (by rfl) 5 Tryz.underlying22 hs5 (some ⟨w.heap.size, 0, none⟩) p n n n c (by rfl) (by rfl) w.heap.size 0 Z 5 hrow V (by rw [hVl]; exact (Nat.min_self n).symm) (fun h0 => ⟨rfl, hpos _ (ba _) h0⟩) (by omega) hone w.heap.size w (ba _) (Nat.le_refl _) ?_; intro w2 hg2 hb2)
  go_ret
  have hg3 := hg2.out
  rw [hfin.out, hV.out] at hg3
  exact ⟨_, _, rfl, row_own hg3 (Nat.le_refl _) hx (by omega), hb2⟩

end Go.Proofs.YtdjdanpicbaieaaGreatDoor

namespace Go.Proofs.YtdjdanpicbaieaaGreatDoor
open Go.RowKit
set_option maxRecDepth 100000

/-- The cells of a block of one's own. -/
def Cells (w : World) (g : Nat) (A : Array Value) : Prop := g < w.heap.size ∧ ∀ i, w.cell? ⟨g, i, none⟩ = A[i]? ∧ w.frozen? ⟨g, i, none⟩ = false
theorem Cells.made (w : World) (A : Array Value) (T : TypeId) : Cells (w.alloc (.cells A T)) w.heap.size A := by
  have e := heap_made w (.cells A T)
  refine ⟨by simp, fun i => ⟨by simp only [World.cell?, e]; rfl, ?_⟩⟩
  simp only [World.frozen?, e]
  simp
theorem Cells.on {w w' : World} {g : Nat} {A : Array Value} (h : Cells w g A) (b : Below w.heap.size w w') : Cells w' g A :=
  ⟨Nat.lt_of_lt_of_le h.1 b.size, fun i => ⟨(b.cell h.1).trans (h.2 i).1, (b.frozen h.1).trans (h.2 i).2⟩⟩
theorem Cells.other {w : World} {g : Nat} {A : Array Value} (h : Cells w g A) {a : Addr} (v : Value) (ha : g ≠ a.block) : Cells (w.setCell a v) g A := by
  have e := Below.heap_setCell w a v g ha
  refine ⟨by simpa using h.1, fun i => ⟨?_, ?_⟩⟩
  · rw [← (h.2 i).1]; exact World.cell?_of_block (w := w) e
  · rw [← (h.2 i).2]; exact World.frozen?_of_block (w := w) e
theorem Cells.set {w : World} {g : Nat} {A : Array Value} (h : Cells w g A) (k : Nat) (hk : k < A.size) (v : Value) : Cells (w.setCell ⟨g, k, none⟩ v) g (A.setIfInBounds k v) := by
  refine ⟨by simpa using h.1, fun i => ⟨?_, ?_⟩⟩
  · by_cases e : k = i
    · subst e
      rw [World.cell?_setCell_same w _ _ (by rw [(h.2 k).1]; exact Array.getElem?_eq_getElem hk)]
      simp [hk]
    · rw [World.cell?_setCell_other _ _ _ _ (by intro x; simp only [Addr.mk.injEq] at x; omega), (h.2 i).1, Array.getElem?_setIfInBounds_ne e]
  · rw [World.frozen?_setCell]; exact (h.2 i).2
theorem Cells.grown {w w' : World} {g : Nat} {A : Array Value} {r : Option Nat} (h : Cells w g A) (hg : w.grownBy w' r) (hr : some g ≠ r) : Cells w' g A := by
  have e := hg.block g h.1 hr
  exact ⟨Nat.lt_of_lt_of_le h.1 hg.size, fun i => ⟨(World.cell?_of_block (w := w) e).trans (h.2 i).1, (World.frozen?_of_block (w := w) e).trans (h.2 i).2⟩⟩

end Go.Proofs.YtdjdanpicbaieaaGreatDoor
