/-
  The laws' marks in lists of items: laid, and found again. Conditions: rows of one's own, numbers that are not great.
-/
import Derived.Test.YtkdbcplcpcdnbaaMarkText
import Derived.Test.YtkdbcplcpcdnbaaSpecTake
namespace Go.Proofs.Ytkdbcplcpcdnbaa
open Go.RowKit
set_option maxRecDepth 100000

/-- Of the blocks that were there only some from lo to below hi have turned. -/
structure Within (lo hi : Nat) (w w' : World) : Prop where
  os : w'.os = w.os
  tape : w'.tape = w.tape
  output : w'.output = w.output
  size : w.heap.size ≤ w'.heap.size
  block : ∀ k, k < w.heap.size → (k < lo ∨ hi ≤ k) → w'.heap[k]? = w.heap[k]?
theorem Within.refl (lo hi : Nat) (w : World) : Within lo hi w w := ⟨rfl, rfl, rfl, Nat.le_refl _, fun _ _ _ => rfl⟩
theorem Within.below {lo hi : Nat} {w w1 w2 : World} (h : Within lo hi w w1) (b : Below w1.heap.size w1 w2) : Within lo hi w w2 :=
  ⟨b.os.trans h.os, b.tape.trans h.tape, b.output.trans h.output, Nat.le_trans h.size b.size, fun k hk hr => (b.block k (Nat.lt_of_lt_of_le hk h.size)).trans (h.block k hk hr)⟩
theorem Within.grown {lo hi : Nat} {w w1 w2 : World} {r : Option Nat} (h : Within lo hi w w1) (g : w1.grownBy w2 r) (hr : ∀ k, r = some k → lo ≤ k ∧ k < hi) : Within lo hi w w2 :=
  ⟨g.os.trans h.os, g.tape.trans h.tape, g.output.trans h.output, Nat.le_trans h.size g.size, fun k hk hh => (g.block k (Nat.lt_of_lt_of_le hk h.size) (fun e => by have := hr k e.symm; omega)).trans (h.block k hk hh)⟩
theorem Within.low {a lo hi : Nat} {w0 w w' : World} (h : Within lo hi w w') (b : Below a w0 w) (ha : a ≤ lo) (hw : a ≤ w.heap.size) : Below a w0 w' :=
  b.trans ⟨h.os, h.tape, h.output, h.size, fun k hk => h.block k (by omega) (.inl (by omega))⟩
theorem owns_same {w w' : World} {base e size n : Nat} {v : Value} {xs : List Value} (h : w.ownsRow base e size v n xs) (hb : ∀ k, v.ownBlock = some k → w'.heap[k]? = w.heap[k]?) : w'.ownsRow base e size v n xs := by
  refine ⟨h.1, ?_⟩
  rcases h.2 with hn | ⟨g, cap, cur, rfl, hbg, hgg, rest⟩
  · exact .inl hn
  · refine .inr ⟨g, cap, cur, rfl, hbg, ?_, rest⟩
    rw [hb g rfl]
    exact hgg
theorem Own.past13 {e lo hi a b n : Nat} {w w' : World} {v : Value} {xs : List Int} (h : Own e w a b v n xs) (hw : Within lo hi w w') (hd : b ≤ lo ∨ hi ≤ a) : Own e w' a b v n xs :=
  ⟨owns_same h.1 (fun k hk => hw.block k (h.1.lt k hk).2 (by have := h.2 k hk; have := (h.1.lt k hk).1; omega)), h.2⟩
theorem OwnItems.past13 {lo hi a b n : Nat} {w w' : World} {v : Value} {its : List ItA} (h : OwnItems w a b v n its) (hw : Within lo hi w w') (hd : b ≤ lo ∨ hi ≤ a) : OwnItems w' a b v n its :=
  ⟨h.len, owns_same h.row (fun k hk => hw.block k (h.row.lt k hk).2 (by have := h.top k hk; have := (h.row.lt k hk).1; omega)), h.top, fun x hx => (h.bytes x hx).past13 hw hd, h.apart, h.pair⟩

/-- The marks that are laid into items from k on. -/
def mkI : Nat → List ItA → List ItA
  | _, [] => []
  | k, x :: r => ⟨mtS k, ((k + 1 : Nat) : Int), ((k + 2 : Nat) : Int), x.p, x.n, x.c, marks ((k + 3 : Nat) : Int) x.n⟩ :: mkI (k + 3 + x.n) r
def mkK : Nat → List ItA → Nat
  | k, [] => k
  | k, x :: r => mkK (k + 3 + x.n) r
theorem mkK_append (k : Nat) (a b : List ItA) : mkK k (a ++ b) = mkK (mkK k a) b := by
  induction a generalizing k with
  | nil => rfl
  | cons x r ih => exact ih _
theorem mkI_append (k : Nat) (a b : List ItA) : mkI k (a ++ b) = mkI k a ++ mkI (mkK k a) b := by
  induction a generalizing k with
  | nil => rfl
  | cons x r ih => simp only [List.cons_append, mkI, mkK]; rw [ih]
theorem mkI_length (k : Nat) (a : List ItA) : (mkI k a).length = a.length := by
  induction a generalizing k with
  | nil => rfl
  | cons x r ih => simp [mkI, ih]
theorem mkK_le (k : Nat) (a : List ItA) : mkK k a = k + 3 * a.length + (a.map ItA.n).sum := by
  induction a generalizing k with
  | nil => simp [mkK]
  | cons x r ih => simp [mkK, ih]; omega
theorem mkK_take (k : Nat) (a : List ItA) (j : Nat) : mkK k (a.take j) ≤ mkK k a := by
  have e := congrArg (mkK k) (List.take_append_drop j a)
  rw [mkK_append, mkK_le (mkK k (a.take j))] at e
  omega

/-- Items that lie in the same slices, whatever the row tells beside. -/
theorem OwnItems.relabel {w w' : World} {lo hi n g : Nat} {v : Value} {its its' : List ItA} (h : OwnItems w lo hi v n its) (e : its'.map (fun x => (x.slice, x.n, x.xs)) = its.map (fun x => (x.slice, x.n, x.xs))) (hrow : w'.ownsRow lo 26 4 v n (flatI its')) (hg : w.grownBy w' (some g)) (hv : v.ownBlock = some g) : OwnItems w' lo hi v n its' := by
  have hl : its'.length = its.length := by have := congrArg List.length e; simpa using this
  have each : ∀ x ∈ its', ∃ y ∈ its, x.slice = y.slice ∧ x.n = y.n ∧ x.xs = y.xs := fun x hx => by
    have : (x.slice, x.n, x.xs) ∈ its.map (fun x => (x.slice, x.n, x.xs)) := by rw [← e]; exact List.mem_map.2 ⟨x, hx, rfl⟩
    obtain ⟨y, hy, h2⟩ := List.mem_map.1 this
    simp only [Prod.mk.injEq] at h2
    exact ⟨y, hy, h2.1.symm, h2.2.1.symm, h2.2.2.symm⟩
  have hmap : its'.map ItA.slice = its.map ItA.slice := by
    have := congrArg (List.map Prod.fst) e
    rw [List.map_map, List.map_map] at this
    exact this
  refine ⟨by rw [hl, h.len], hrow, h.top, fun x hx => ?_, fun x hx => ?_, ?_⟩
  · obtain ⟨y, hy, e1, e2, e3⟩ := each x hx
    rw [e1, e2, e3]
    refine ⟨(h.bytes y hy).1.kept hg ?_, (h.bytes y hy).2⟩
    rw [← hv]; exact h.apart y hy
  · obtain ⟨y, hy, e1, _, _⟩ := each x hx
    rw [e1]; exact h.apart y hy
  · have p1 : (its.map ItA.slice).Pairwise (fun a b => a.ownBlock = none ∨ a.ownBlock ≠ b.ownBlock) := List.pairwise_map.2 h.pair
    rw [← hmap] at p1
    exact List.pairwise_map.1 p1

/-- The bytes of one item told anew. -/
theorem OwnItems.rebyte {w w' : World} {lo hi n : Nat} {v : Value} {a b : List ItA} {x : ItA} {ys : List Int} (h : OwnItems w lo hi v n (a ++ x :: b)) (hx : Own 5 w' lo hi x.slice x.n ys) (hg : w.grownBy w' x.slice.ownBlock) : OwnItems w' lo hi v n (a ++ { x with xs := ys } :: b) := by
  have hf : flatI (a ++ { x with xs := ys } :: b) = flatI (a ++ x :: b) := by rw [flatI_append, flatI_append, flatI_cons, flatI_cons]; rfl
  have hap := h.apart x (by simp)
  have p := List.pairwise_append.1 h.pair
  have p2 := List.pairwise_cons.1 p.2.1
  have other : ∀ y, y ∈ a ∨ y ∈ b → y.slice.ownBlock = none ∨ y.slice.ownBlock ≠ x.slice.ownBlock := fun y hy => by
    rcases hy with hy | hy
    · exact p.2.2 y hy x (by simp)
    · rcases p2.1 y hy with e | e
      · rw [e]; cases y.slice.ownBlock <;> simp
      · exact .inr (Ne.symm e)
  have hv : v.ownBlock = none ∨ v.ownBlock ≠ x.slice.ownBlock := by
    rcases hap with e | e
    · rw [e]; cases v.ownBlock <;> simp
    · exact .inr (Ne.symm e)
  refine ⟨by have := h.len; simpa using this, by rw [hf]; exact h.row.kept hg hv, h.top, fun y hy => ?_, fun y hy => ?_, ?_⟩
  · rcases List.mem_append.1 hy with hy | hy
    · exact ⟨(h.bytes y (by simp [hy])).1.kept hg (other y (.inl hy)), (h.bytes y (by simp [hy])).2⟩
    · rcases List.mem_cons.1 hy with rfl | hy
      · exact hx
      · exact ⟨(h.bytes y (by simp [hy])).1.kept hg (other y (.inr hy)), (h.bytes y (by simp [hy])).2⟩
  · rcases List.mem_append.1 hy with hy | hy
    · exact h.apart y (by simp [hy])
    · rcases List.mem_cons.1 hy with rfl | hy
      · exact hap
      · exact h.apart y (by simp [hy])
  · rw [List.pairwise_append, List.pairwise_cons]
    exact ⟨p.1, ⟨p2.1, p2.2⟩, fun y hy z hz => by
      rcases List.mem_cons.1 hz with rfl | hz
      · exact p.2.2 y hy x (by simp)
      · exact p.2.2 y hy z (by simp [hz])⟩

theorem flatI_set3 (A B : List ItA) (x y : ItA) (h : x.slice = y.slice) :
    (((flatI (A ++ x :: B)).set (A.length * 4) (.string y.s)).set (A.length * 4 + 1) (.int .i64 y.t)).set (A.length * 4 + 2) (.int .i64 y.d) = flatI (A ++ y :: B) := by
  have e : ∀ (l m : List Value) (k : Nat) (v : Value), (l ++ m).set (l.length + k) v = l ++ m.set k v := fun l m k v => by rw [List.set_append_right _ _ (by omega)]; congr 2; omega
  have hl : (flatI A).length = A.length * 4 := flatI_length A
  have e0 : ∀ (m : List Value) (v : Value), (flatI A ++ m).set (A.length * 4) v = flatI A ++ m.set 0 v := fun m v => by rw [← hl]; exact e _ _ 0 _
  have e1 : ∀ (m : List Value) (v : Value), (flatI A ++ m).set (A.length * 4 + 1) v = flatI A ++ m.set 1 v := fun m v => by rw [← hl]; exact e _ _ 1 _
  have e2 : ∀ (m : List Value) (v : Value), (flatI A ++ m).set (A.length * 4 + 2) v = flatI A ++ m.set 2 v := fun m v => by rw [← hl]; exact e _ _ 2 _
  rw [flatI_append, flatI_append, flatI_cons, flatI_cons, e0, e1, e2]
  have hv : Value.slice x.p x.n x.c = Value.slice y.p y.n y.c := h
  simp [ItA.vals, hv]

theorem mkI_at (k : Nat) (its : List ItA) (j : Nat) (h : j < its.length) : (mkI k its).getD j default = ⟨mtS (mkK k (its.take j)), ((mkK k (its.take j) + 1 : Nat) : Int), ((mkK k (its.take j) + 2 : Nat) : Int), (its.getD j default).p, (its.getD j default).n, (its.getD j default).c, marks ((mkK k (its.take j) + 3 : Nat) : Int) (its.getD j default).n⟩ := by
  have e : its = its.take j ++ its.getD j default :: its.drop (j + 1) := by
    conv => lhs; rw [← List.take_append_drop j its, List.drop_eq_getElem_cons h]
    rw [List.getD_eq_getElem?_getD, List.getElem?_eq_getElem h]; rfl
  have hl : (mkI k (its.take j)).length = j := by rw [mkI_length, List.length_take]; omega
  conv => lhs; rw [e, mkI_append]
  rw [List.getD_eq_getElem?_getD, List.getElem?_append_right (by omega), hl, Nat.sub_self]
  rfl

end Go.Proofs.Ytkdbcplcpcdnbaa
