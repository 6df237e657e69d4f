/-
  Rows of items of one's own: what lies there, that it stays, one of them told anew. Conditions: none beyond each fact's own.
  The laws' own copy of a list of items. Conditions: items that lie there, as many as a law hands over.
-/
import Derived.Test.YthfnechcddmjkaaGreatDoorPar13
import Derived.Test.YthfnechcddmjkaaGreatDoorPar03
import Derived.OneCell
namespace Go.Proofs.YthfnechcddmjkaaGreatDoor
open Go.RowKit
set_option maxRecDepth 100000

def ItA.slice (x : ItA) : Value := .slice x.p x.n x.c
def ItA.con (x : ItA) : ByteArray × Int × Int × List Int := (x.s, x.t, x.d, x.xs)
theorem ItA.vals_length (x : ItA) : x.vals.length = 4 := rfl
def flatI (its : List ItA) : List Value := its.flatMap ItA.vals
theorem flatI_length (its : List ItA) : (flatI its).length = its.length * 4 := by
  induction its with
  | nil => rfl
  | cons x r ih => simp only [flatI, List.flatMap_cons, List.length_append] at *; rw [ih, ItA.vals_length]; simp; omega
theorem flatI_cons (x : ItA) (r : List ItA) : flatI (x :: r) = x.vals ++ flatI r := by simp [flatI]
theorem flatI_append (a b : List ItA) : flatI (a ++ b) = flatI a ++ flatI b := by simp [flatI]
theorem flatI_at (its : List ItA) (i j : Nat) (hj : j < 4) (hi : i < its.length) : (flatI its)[i * 4 + j]? = (its.getD i default).vals[j]? := by
  induction its generalizing i with
  | nil => simp at hi
  | cons x r ih =>
    rw [flatI_cons]
    cases i with
    | zero => rw [List.getElem?_append_left (by rw [ItA.vals_length]; omega)]; simp
    | succ i =>
      rw [List.getElem?_append_right (by rw [ItA.vals_length]; omega), ItA.vals_length, show (i + 1) * 4 + j - 4 = i * 4 + j by omega, ih i (by simpa using hi)]
      simp
theorem flatI_set (its : List ItA) (i : Nat) (x : ItA) (hi : i < its.length) :
    ((((flatI its).set (i * 4) (.string x.s)).set (i * 4 + 1) (.int .i64 x.t)).set (i * 4 + 2) (.int .i64 x.d)).set (i * 4 + 3) (.slice x.p x.n x.c) = flatI (its.set i x) := by
  induction its generalizing i with
  | nil => simp at hi
  | cons y r ih =>
    cases i with
    | zero => simp [flatI_cons, ItA.vals]
    | succ i =>
      have := ih i (by simpa using hi)
      rw [List.set_cons_succ, flatI_cons, flatI_cons, ← this]
      have e : ∀ (l : List Value) (k : Nat) (v : Value), (y.vals ++ l).set ((i + 1) * 4 + k) v = y.vals ++ l.set (i * 4 + k) v := fun l k v => by
        rw [List.set_append_right _ _ (by rw [ItA.vals_length]; omega), ItA.vals_length, show (i + 1) * 4 + k - 4 = i * 4 + k by omega]
      have e0 := fun l v => e l 0 v
      simp only [Nat.add_zero] at e0
      rw [e0, e, e, e]

structure OwnItems (w : World) (lo hi : Nat) (v : Value) (n : Nat) (its : List ItA) : Prop where
  len : its.length = n
  row : w.ownsRow lo 84 4 v n (flatI its)
  top : ∀ k, v.ownBlock = some k → k < hi
  bytes : ∀ x ∈ its, Own 5 w lo hi x.slice x.n x.xs
  apart : ∀ x ∈ its, x.slice.ownBlock = none ∨ x.slice.ownBlock ≠ v.ownBlock
  pair : its.Pairwise (fun x y => x.slice.ownBlock = none ∨ x.slice.ownBlock ≠ y.slice.ownBlock)

theorem OwnItems.on {w w' : World} {lo hi : Nat} {v : Value} {n : Nat} {its : List ItA} (h : OwnItems w lo hi v n its) (b : Below w.heap.size w w') : OwnItems w' lo hi v n its :=
  ⟨h.len, owns_below h.row b, h.top, fun x hx => (h.bytes x hx).on b, h.apart, h.pair⟩
theorem Own.wide {e : Nat} {w : World} {lo hi lo' hi' : Nat} {v : Value} {n : Nat} {xs : List Int} (h : Own e w lo hi v n xs) (h1 : lo' ≤ lo) (h2 : hi ≤ hi') : Own e w lo' hi' v n xs := ⟨owns_mono h.1 h1, fun k hk => Nat.lt_of_lt_of_le (h.2 k hk) h2⟩
theorem OwnItems.wide {w : World} {lo hi lo' hi' : Nat} {v : Value} {n : Nat} {its : List ItA} (h : OwnItems w lo hi v n its) (h1 : lo' ≤ lo) (h2 : hi ≤ hi') : OwnItems w lo' hi' v n its :=
  ⟨h.len, owns_mono h.row h1, fun k hk => Nat.lt_of_lt_of_le (h.top k hk) h2, fun x hx => (h.bytes x hx).wide h1 h2, h.apart, h.pair⟩
theorem OwnItems.items {w : World} {lo hi : Nat} {p : Option Addr} {c n : Nat} {its : List ItA} (h : OwnItems w lo hi (.slice p n c) n its) : ItemsIn w p n its := by
  intro hn
  rcases h.row.2 with ⟨_, h0⟩ | ⟨g, cap, cur, hv, _, _⟩
  · omega
  · simp only [Value.slice.injEq] at hv
    obtain ⟨rfl, _, rfl⟩ := hv
    refine ⟨g, 0, rfl, fun i j u hi hu => ?_⟩
    have hj : j < 4 := (List.getElem?_eq_some_iff.1 hu).1
    rw [Nat.zero_add, h.row.cellAt (i * 4 + j) (by omega), flatI_at its i j hj (by rw [h.len]; exact hi)]
    exact hu

structure ItA.Fit (x : ItA) : Prop where
  hs : x.s.size ≤ 1048576
  ht : -9223372036854775808 ≤ x.t ∧ x.t ≤ 9223372036854775807
  hd : -9223372036854775808 ≤ x.d ∧ x.d ≤ 9223372036854775807
  hn : x.xs.length ≤ 1048576
  byte : ∀ y ∈ x.xs, 0 ≤ y ∧ y < 256

def setItem (w : World) (g k : Nat) (x : ItA) : World := (((w.setCell ⟨g, k * 4, none⟩ (.string x.s)).setCell ⟨g, k * 4 + 1, none⟩ (.int .i64 x.t)).setCell ⟨g, k * 4 + 2, none⟩ (.int .i64 x.d)).setCell ⟨g, k * 4 + 3, none⟩ (.slice x.p x.n x.c)
theorem setItem_grown (w : World) (g k : Nat) (x : ItA) : w.grownBy (setItem w g k x) (some g) :=
  (((set_grown w g _ _).trans (set_grown _ g _ _)).trans (set_grown _ g _ _)).trans (set_grown _ g _ _)
theorem setItem_row {w : World} {lo g n cap k : Nat} {its : List ItA} (x : ItA) (h : w.ownsRow lo 84 4 (.slice (some ⟨g, 0, none⟩) n cap) n (flatI its)) (hk : k < its.length) :
    (setItem w g k x).ownsRow lo 84 4 (.slice (some ⟨g, 0, none⟩) n cap) n (flatI (its.set k x)) := by
  rw [← flatI_set its k x hk]
  exact ((((h.stored (k * 4) _).1.stored (k * 4 + 1) _).1.stored (k * 4 + 2) _).1.stored (k * 4 + 3) _).1
theorem OwnItems.set {w : World} {lo hi g n cap k : Nat} {its : List ItA} {x : ItA} (h : OwnItems w lo hi (.slice (some ⟨g, 0, none⟩) n cap) n its) (hk : k < n) (ho : Own 5 w lo hi x.slice x.n x.xs)
    (hg : x.slice.ownBlock = none ∨ x.slice.ownBlock ≠ some g) (hap : ∀ y ∈ its, y.slice.ownBlock = none ∨ y.slice.ownBlock ≠ x.slice.ownBlock) : OwnItems (setItem w g k x) lo hi (.slice (some ⟨g, 0, none⟩) n cap) n (its.set k x) := by
  have hgr := setItem_grown w g k x
  have mem : ∀ y ∈ its.set k x, y ∈ its ∨ y = x := fun y hy => List.mem_or_eq_of_mem_set hy
  have sym : ∀ y ∈ its, x.slice.ownBlock = none ∨ x.slice.ownBlock ≠ y.slice.ownBlock := fun y hy => by
    rcases hap y hy with e | e
    · rw [e]
      cases x.slice.ownBlock <;> simp
    · exact .inr (Ne.symm e)
  refine ⟨by simpa using h.len, setItem_row x h.row (by rw [h.len]; exact hk), h.top, fun y hy => ?_, fun y hy => ?_, ?_⟩
  · rcases mem y hy with hy | rfl
    · exact ⟨(h.bytes y hy).1.kept hgr (h.apart y hy), (h.bytes y hy).2⟩
    · exact ⟨ho.1.kept hgr hg, ho.2⟩
  · rcases mem y hy with hy | rfl
    · exact h.apart y hy
    · exact hg
  · rw [List.pairwise_iff_getElem]
    intro i j hi hj hij
    simp only [List.length_set] at hi hj
    rw [List.getElem_set, List.getElem_set]
    split
    · split
      · omega
      · exact sym _ (List.getElem_mem _)
    · split
      · exact hap _ (List.getElem_mem _)
      · exact (List.pairwise_iff_getElem.1 h.pair) i j hi hj hij

theorem store_item {w : World} {lo g n cap k : Nat} {its : List ItA} (x : ItA) (h : w.ownsRow lo 84 4 (.slice (some ⟨g, 0, none⟩) n cap) n (flatI its)) (hk : k < n) (hl : its.length = n) :
    (∃ u, w.cell? ⟨g, k * 4, none⟩ = some u) ∧ (∃ u, (w.setCell ⟨g, k * 4, none⟩ (.string x.s)).cell? ⟨g, k * 4 + 1, none⟩ = some u) ∧
    (∃ u, ((w.setCell ⟨g, k * 4, none⟩ (.string x.s)).setCell ⟨g, k * 4 + 1, none⟩ (.int .i64 x.t)).cell? ⟨g, k * 4 + 2, none⟩ = some u) ∧
    (∃ u, (((w.setCell ⟨g, k * 4, none⟩ (.string x.s)).setCell ⟨g, k * 4 + 1, none⟩ (.int .i64 x.t)).setCell ⟨g, k * 4 + 2, none⟩ (.int .i64 x.d)).cell? ⟨g, k * 4 + 3, none⟩ = some u) ∧
    w.frozen? ⟨g, k * 4, none⟩ = false ∧ (w.setCell ⟨g, k * 4, none⟩ (.string x.s)).frozen? ⟨g, k * 4 + 1, none⟩ = false ∧
    ((w.setCell ⟨g, k * 4, none⟩ (.string x.s)).setCell ⟨g, k * 4 + 1, none⟩ (.int .i64 x.t)).frozen? ⟨g, k * 4 + 2, none⟩ = false ∧
    (((w.setCell ⟨g, k * 4, none⟩ (.string x.s)).setCell ⟨g, k * 4 + 1, none⟩ (.int .i64 x.t)).setCell ⟨g, k * 4 + 2, none⟩ (.int .i64 x.d)).frozen? ⟨g, k * 4 + 3, none⟩ = false := by
  have h1 := (h.stored (k * 4) (.string x.s)).1
  have h2 := (h1.stored (k * 4 + 1) (.int .i64 x.t)).1
  have h3 := (h2.stored (k * 4 + 2) (.int .i64 x.d)).1
  have some_of : ∀ {l : List Value} {i : Nat}, i < l.length → ∃ u, l[i]? = some u := fun hi => ⟨_, List.getElem?_eq_getElem hi⟩
  have hf := flatI_length its
  refine ⟨?_, ?_, ?_, ?_, h.frozenAt _, h1.frozenAt _, h2.frozenAt _, h3.frozenAt _⟩
  · rw [h.cellAt _ (by omega)]; exact some_of (by omega)
  · rw [h1.cellAt _ (by omega)]; exact some_of (by simp only [List.length_set]; omega)
  · rw [h2.cellAt _ (by omega)]; exact some_of (by simp only [List.length_set]; omega)
  · rw [h3.cellAt _ (by omega)]; exact some_of (by simp only [List.length_set]; omega)

end Go.Proofs.YthfnechcddmjkaaGreatDoor

namespace Go.Proofs.YthfnechcddmjkaaGreatDoor
open Go.RowKit
set_option maxRecDepth 100000

theorem infoItem : (Tryz.prog.info? 84).map (fun i => (i.zero, i.size, i.bytes)) = some (some (.agg #[.string ByteArray.empty, .int .i64 0, .int .i64 0, .slice none 0 0]), 4, 56) := by kernel_rfl

theorem made_items (n : Nat) : (madeCells #[.string ByteArray.empty, .int .i64 0, .int .i64 0, .slice none 0 0] (n * 4)).toList = flatI (List.replicate n default) := by
  induction n with
  | zero => simp [madeCells, flatI]
  | succ n ih =>
    rw [List.replicate_succ', flatI_append, ← ih]
    simp only [madeCells, Array.toList_map, Array.toList_range]
    rw [show (n + 1) * 4 = n * 4 + 4 by omega, List.range_add, List.map_append]
    congr 1
    have e : ∀ k, (n * 4 + k) % 4 = k % 4 := fun k => by omega
    simp [flatI, ItA.vals, List.range_succ, default, e]

theorem noItems (w : World) (lo g n cap : Nat) (h : w.ownsRow lo 84 4 (.slice (some ⟨g, 0, none⟩) n cap) n (flatI (List.replicate n default))) : OwnItems w lo w.heap.size (.slice (some ⟨g, 0, none⟩) n cap) n (List.replicate n default) := by
  have e : ∀ x ∈ List.replicate n (default : ItA), x = default := fun x hx => (List.mem_replicate.1 hx).2
  refine ⟨by simp, h, fun k hk => (h.lt k hk).2, fun x hx => ?_, fun x hx => ?_, ?_⟩
  · rw [e x hx]
    exact ⟨World.ownsRow_nil _ _ _ _, fun k hk => by cases hk⟩
  · rw [e x hx]
    exact .inl rfl
  · rw [List.pairwise_iff_getElem]
    intro i j hi hj _
    left
    rw [List.getElem_replicate]
    rfl

end Go.Proofs.YthfnechcddmjkaaGreatDoor
