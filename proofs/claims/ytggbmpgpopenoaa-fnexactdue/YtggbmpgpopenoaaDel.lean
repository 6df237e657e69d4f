/-
  slices.DeleteFunc on a row of a shelf. Conditions: a row of one's own, a test that turns nothing, whatever it asks.
-/
import Derived.Test.YtggbmpgpopenoaaLeave
import Derived.Lib.SliceRun
namespace Go.Proofs.Ytggbmpgpopenoaa
open Go.RowKit
set_option maxRecDepth 100000

theorem owns_setCells {lo e size g n cap : Nat} : ∀ (vs : List Value) (i : Nat) (w : World) (xs : List Value), w.ownsRow lo e size (.slice (some ⟨g, 0, none⟩) n cap) n xs →
    ∃ xs', (w.setCells g i vs).ownsRow lo e size (.slice (some ⟨g, 0, none⟩) n cap) n xs' ∧ xs'.take i = xs.take i ∧ w.grownBy (w.setCells g i vs) (some g)
  | [], i, w, xs, h => ⟨xs, h, rfl, World.grownBy.refl _ _⟩
  | v :: r, i, w, xs, h => by
    obtain ⟨xs', h', e', g'⟩ := owns_setCells r (i + 1) _ _ (h.stored i v).1
    refine ⟨xs', h', ?_, (set_grown w g i v).trans g'⟩
    have := congrArg (List.take i) e'
    rw [List.take_take, List.take_take, Nat.min_eq_left (by omega)] at this
    rw [this]
    exact List.take_set_of_le (Nat.le_refl _)
theorem owns_cut {w : World} {lo e size g n cap k : Nat} {xs : List Value} (h : w.ownsRow lo e size (.slice (some ⟨g, 0, none⟩) n cap) n xs) (hk : k ≤ n) : w.ownsRow lo e size (.slice (some ⟨g, 0, none⟩) k cap) k (xs.take (k * size)) := by
  have hm : k * size ≤ n * size := Nat.mul_le_mul_right _ hk
  refine ⟨by rw [List.length_take, h.1]; omega, ?_⟩
  rcases h.2 with ⟨hv, h0⟩ | ⟨g', cap', cur, hv, hb, hg, hnc, hcm, hcs, ht⟩
  · simp at hv
  · simp only [Value.slice.injEq, Option.some.injEq, Addr.mk.injEq, and_true, true_and] at hv
    obtain ⟨rfl, rfl⟩ := hv
    refine .inr ⟨g, cap, cur, rfl, hb, hg, by omega, hcm, hcs, ?_⟩
    rw [← ht, List.take_take]
    congr 1
    omega
theorem flatP_take (l : List PIt) (k : Nat) : (flatP l).take (k * 5) = flatP (l.take k) := by
  induction l generalizing k with
  | nil => simp [flatP]
  | cons x r ih =>
    cases k with
    | zero => simp [flatP]
    | succ k =>
      rw [List.take_succ_cons, flatP_cons, flatP_cons, List.take_append, PIt.vals_length, List.take_of_length_le (by rw [PIt.vals_length]; omega), show (k + 1) * 5 - 5 = k * 5 by omega, ih]

theorem flatP_set5 (l : List PIt) (k : Nat) (z : PIt) (h : k < l.length) :
    (((((flatP l).set (k * 5) (.int .i64 z.k)).set (k * 5 + 1) (.string z.x.s)).set (k * 5 + 2) (.int .i64 z.x.t)).set (k * 5 + 3) (.int .i64 z.x.d)).set (k * 5 + 4) (.slice z.x.p z.x.n z.x.c) = flatP (l.set k z) := by
  induction l generalizing k with
  | nil => simp at h
  | cons x r ih =>
    cases k with
    | zero => simp [flatP_cons, PIt.vals, ItA.vals]
    | succ k =>
      have e := ih k (by simpa using h)
      rw [List.set_cons_succ, flatP_cons, flatP_cons, ← e]
      have f : ∀ (m : List Value) (j : Nat) (v : Value), (x.vals ++ m).set ((k + 1) * 5 + j) v = x.vals ++ m.set (k * 5 + j) v := fun m j v => by
        rw [List.set_append_right _ _ (by rw [PIt.vals_length]; omega), PIt.vals_length]
        congr 2
        omega
      have f0 : ∀ (m : List Value) (v : Value), (x.vals ++ m).set ((k + 1) * 5) v = x.vals ++ m.set (k * 5) v := fun m v => f m 0 v
      rw [f0, f, f, f, f]

/-- An element of a row is written over. -/
theorem store_pl {w : World} {lo g n cap k : Nat} {l : List PIt} (z : PIt) (h : w.ownsRow lo 96 5 (.slice (some ⟨g, 0, none⟩) n cap) n (flatP l)) (hk : k < n) (hl : l.length = n) :
    ∃ X, Hid (((((w.setCell ⟨g, k * 5, none⟩ (.int .i64 z.k)).setCell ⟨g, k * 5 + 1, none⟩ (.string z.x.s)).setCell ⟨g, k * 5 + 2, none⟩ (.int .i64 z.x.t)).setCell ⟨g, k * 5 + 3, none⟩ (.int .i64 z.x.d)).setCell ⟨g, k * 5 + 4, none⟩ (.slice z.x.p z.x.n z.x.c) = X) ∧
    X.ownsRow lo 96 5 (.slice (some ⟨g, 0, none⟩) n cap) n (flatP (l.set k z)) ∧ w.grownBy X (some g) ∧
    (∃ u, w.cell? ⟨g, k * 5, none⟩ = some u) ∧ (∃ u, (w.setCell ⟨g, k * 5, none⟩ (.int .i64 z.k)).cell? ⟨g, k * 5 + 1, none⟩ = some u) ∧
    (∃ u, ((w.setCell ⟨g, k * 5, none⟩ (.int .i64 z.k)).setCell ⟨g, k * 5 + 1, none⟩ (.string z.x.s)).cell? ⟨g, k * 5 + 2, none⟩ = some u) ∧
    (∃ u, (((w.setCell ⟨g, k * 5, none⟩ (.int .i64 z.k)).setCell ⟨g, k * 5 + 1, none⟩ (.string z.x.s)).setCell ⟨g, k * 5 + 2, none⟩ (.int .i64 z.x.t)).cell? ⟨g, k * 5 + 3, none⟩ = some u) ∧
    (∃ u, ((((w.setCell ⟨g, k * 5, none⟩ (.int .i64 z.k)).setCell ⟨g, k * 5 + 1, none⟩ (.string z.x.s)).setCell ⟨g, k * 5 + 2, none⟩ (.int .i64 z.x.t)).setCell ⟨g, k * 5 + 3, none⟩ (.int .i64 z.x.d)).cell? ⟨g, k * 5 + 4, none⟩ = some u) ∧
    w.frozen? ⟨g, k * 5, none⟩ = false ∧ (w.setCell ⟨g, k * 5, none⟩ (.int .i64 z.k)).frozen? ⟨g, k * 5 + 1, none⟩ = false ∧
    ((w.setCell ⟨g, k * 5, none⟩ (.int .i64 z.k)).setCell ⟨g, k * 5 + 1, none⟩ (.string z.x.s)).frozen? ⟨g, k * 5 + 2, none⟩ = false ∧
    (((w.setCell ⟨g, k * 5, none⟩ (.int .i64 z.k)).setCell ⟨g, k * 5 + 1, none⟩ (.string z.x.s)).setCell ⟨g, k * 5 + 2, none⟩ (.int .i64 z.x.t)).frozen? ⟨g, k * 5 + 3, none⟩ = false ∧
    ((((w.setCell ⟨g, k * 5, none⟩ (.int .i64 z.k)).setCell ⟨g, k * 5 + 1, none⟩ (.string z.x.s)).setCell ⟨g, k * 5 + 2, none⟩ (.int .i64 z.x.t)).setCell ⟨g, k * 5 + 3, none⟩ (.int .i64 z.x.d)).frozen? ⟨g, k * 5 + 4, none⟩ = false := by
  have h1 := (h.stored (k * 5) (.int .i64 z.k)).1
  have h2 := (h1.stored (k * 5 + 1) (.string z.x.s)).1
  have h3 := (h2.stored (k * 5 + 2) (.int .i64 z.x.t)).1
  have h4 := (h3.stored (k * 5 + 3) (.int .i64 z.x.d)).1
  have h5 := (h4.stored (k * 5 + 4) (.slice z.x.p z.x.n z.x.c)).1
  rw [flatP_set5 l k z (by omega)] at h5
  have some_of : ∀ {l : List Value} {i : Nat}, i < l.length → ∃ u, l[i]? = some u := fun hi => ⟨_, List.getElem?_eq_getElem hi⟩
  have hf := flatP_length l
  refine ⟨_, rfl, h5, ((((set_grown _ g _ _).trans (set_grown _ g _ _)).trans (set_grown _ g _ _)).trans (set_grown _ g _ _)).trans (set_grown _ g _ _), ?_, ?_, ?_, ?_, ?_, h.frozenAt _, h1.frozenAt _, h2.frozenAt _, h3.frozenAt _, h4.frozenAt _⟩
  · rw [h.cellAt _ (by omega)]; exact some_of (by omega)
  · rw [h1.cellAt _ (by omega)]; exact some_of (by simp only [List.length_set]; omega)
  · rw [h2.cellAt _ (by omega)]; exact some_of (by simp only [List.length_set]; omega)
  · rw [h3.cellAt _ (by omega)]; exact some_of (by simp only [List.length_set]; omega)
  · rw [h4.cellAt _ (by omega)]; exact some_of (by simp only [List.length_set]; omega)

/-- row[i:]. -/
theorem slice_rowL (b m cc l : Nat) (h : l < m) (hc : m ≤ cc) : ∀ W, (Instr.slice 77 (.slice (some ⟨b, 0, none⟩) m cc) (some (.int .i64 (l : Int))) none none).run Try.prog W = .ok (.slice (some ⟨b, l * 5, none⟩) (m - l) (cc - l)) W := by
  have ht' : Try.prog.underlying 77 = some (.slice (Try.prog.elem 77)) := by simp [Program.elem, Try.underlying77]
  have he : Try.prog.elem 77 = 96 := by simp [Program.elem, Try.underlying77]
  intro W
  rw [run_slice_l W 77 _ _ _ ht' .i64 l (by omega) (by omega), he]
  have e : cc ≠ l := by omega
  rcases Nat.eq_zero_or_pos l with h0 | h0
  · subst h0
    simp [sliced, Addr.add]
  · simp [sliced, Addr.add, e]
    omega
/-- clear(row[k:]). -/
theorem clear_row {W : World} {lo g n c k : Nat} {l : List PIt} (h : W.ownsRow lo 96 5 (.slice (some ⟨g, 0, none⟩) n c) n (flatP l)) (hk : k < n) (hl : l.length = n) :
    ∃ X, (∀ ty, (Builtin.clear_ #[77] ty #[.slice (some ⟨g, k * 5, none⟩) (n - k) (c - k)]).run Try.prog W = .ok (.tuple #[]) X) ∧ X.ownsRow lo 96 5 (.slice (some ⟨g, 0, none⟩) k c) k (flatP (l.take k)) ∧ W.grownBy X (some g) := by
  obtain ⟨Z, hZ⟩ : ∃ Z : Value, Z = .agg #[.int .i64 0, .string { data := #[] }, .int .i64 0, .int .i64 0, .slice none 0 0] := ⟨_, rfl⟩
  have hv : ∀ w, (zeroValue 96).run Try.prog w = .ok Z w := fun w => by rw [hZ]; kernel_rfl
  have hzs : Z.cells.size = 5 := by rw [hZ]; rfl
  have h1 : ∀ v ∈ (Builtin.zeroCells Z.cells (n - k)).toList, v.oneCell' = true := by
    intro v hv
    simp only [Builtin.zeroCells, Array.toList_map, List.mem_map, hzs] at hv
    obtain ⟨i, _, rfl⟩ := hv
    have : i % 5 < 5 := Nat.mod_lt _ (by decide)
    rw [hZ]
    generalize i % 5 = j at this
    match j, this with
    | 0, _ => rfl
    | 1, _ => rfl
    | 2, _ => rfl
    | 3, _ => rfl
    | 4, _ => rfl
  have hlen : (Builtin.zeroCells Z.cells (n - k)).toList.length = (n - k) * 5 := by simp [Builtin.zeroCells, hzs]
  obtain ⟨xs', hX, ht, hg⟩ := owns_setCells (Builtin.zeroCells Z.cells (n - k)).toList (k * 5) W _ h
  refine ⟨W.setCells g (k * 5) (Builtin.zeroCells Z.cells (n - k)).toList, fun ty => ?_, ?_, hg⟩
  · have hst := run_storeCells_cells (P := Try.prog) g (k * 5) (Builtin.zeroCells Z.cells (n - k)).toList 0 W
      (by
        intro j hj
        rw [hlen] at hj
        rw [h.cellAt _ (by omega), List.getElem?_eq_getElem (by rw [flatP_length]; omega)]
        rfl) (fun j _ => h.frozenAt _) h1
    simp only [Nat.add_zero] at hst
    obtain ⟨m, hm⟩ : ∃ m, n - k = m + 1 := ⟨n - k - 1, by omega⟩
    rw [hm] at hst ⊢
    simp [Builtin.clear_, run_underlying Try.underlying77, hv, hst]
  · have := owns_cut hX (Nat.le_of_lt hk)
    rw [ht, flatP_take] at this
    exact this

end Go.Proofs.Ytggbmpgpopenoaa
