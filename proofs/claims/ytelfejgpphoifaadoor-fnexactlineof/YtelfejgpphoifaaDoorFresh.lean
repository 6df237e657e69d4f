/-
  'append([]byte{}, xs...)' in a region that draws its order: the literal's row and the new one. Conditions: bytes that lie there, at least one.
-/
import Derived.Test.YtelfejgpphoifaaDoorCopied
import Derived.Test.YtelfejgpphoifaaDoorPlainI
import Derived.Deep.AppendLies
namespace Go.Proofs.YtelfejgpphoifaaDoor
open Go.RowKit
set_option maxRecDepth 100000

/-- Two rows that lie apart. -/
def Pair (w' : World) (lo : Nat) (p q : Option Addr) (c d n m : Nat) (xs ys : List Int) : Prop :=
  ∃ l1 h1 l2 h2, Own 5 w' l1 h1 (.slice p n c) n xs ∧ Own 5 w' l2 h2 (.slice q m d) m ys ∧ (lo ≤ l1 ∧ h1 ≤ w'.heap.size) ∧ (lo ≤ l2 ∧ h2 ≤ w'.heap.size) ∧ (h1 ≤ l2 ∨ h2 ≤ l1)
theorem Pair.none (w' : World) (lo : Nat) (h : lo ≤ w'.heap.size) : Pair w' lo none none 0 0 0 0 [] [] :=
  ⟨lo, lo, lo, lo, ⟨⟨rfl, .inl ⟨rfl, rfl⟩⟩, fun k hk => by cases hk⟩, ⟨⟨rfl, .inl ⟨rfl, rfl⟩⟩, fun k hk => by cases hk⟩, ⟨Nat.le_refl _, h⟩, ⟨Nat.le_refl _, h⟩, .inl (Nat.le_refl _)⟩
/-- An empty row. -/
def Emp (w : World) (B : Nat) : Prop := w.heap[B]? = some (.cells #[] 5 (0, 0))
/-- A row of bytes that is known whole. -/
def RowAt (w : World) (g cap n : Nat) (ys : List Int) : Prop := w.ownsRow g 5 1 (.slice (some ⟨g, 0, none⟩) n cap) n (ys.map (Value.int .u8))
theorem Emp.lt {w : World} {B : Nat} (h : Emp w B) : B < w.heap.size := (Array.getElem?_eq_some_iff.1 h).1
theorem emp_made (w : World) (B : Nat) (h : w.heap.size = B) : Emp (w.alloc (.cells #[] 5)) B := by subst h; exact heap_made _ _
theorem emp_below {w w' : World} {B : Nat} (h : Emp w B) (b : Below w.heap.size w w') : Emp w' B := (b.block B h.lt).trans h
theorem emp_alloc {w : World} {B : Nat} (h : Emp w B) (o : Obj) : Emp (w.alloc o) B := emp_below h (made_below _ _ (Below.refl _ _))
theorem emp_drew {w : World} {B : Nat} (h : Emp w B) : Emp w.drew B := h
theorem emp_grown {w w' : World} {B B' : Nat} (h : Emp w B) (g : w.grownBy w' (some B')) (ne : B ≠ B') : Emp w' B := (g.block B h.lt (fun e => ne (Option.some.inj e))).trans h
theorem rowAt_below {w w' : World} {g cap n : Nat} {ys : List Int} (h : RowAt w g cap n ys) (b : Below w.heap.size w w') : RowAt w' g cap n ys := owns_below h b
theorem rowAt_alloc {w : World} {g cap n : Nat} {ys : List Int} (h : RowAt w g cap n ys) (o : Obj) : RowAt (w.alloc o) g cap n ys := rowAt_below h (made_below _ _ (Below.refl _ _))
theorem rowAt_drew {w : World} {g cap n : Nat} {ys : List Int} (h : RowAt w g cap n ys) : RowAt w.drew g cap n ys := rowAt_below h (Below.refl _ _).drew
theorem rowAt_grown {w w' : World} {g cap n B' : Nat} {ys : List Int} (h : RowAt w g cap n ys) (hg : w.grownBy w' (some B')) (ne : g ≠ B') : RowAt w' g cap n ys := h.kept hg (.inr fun e => ne (Option.some.inj e))
theorem RowAt.own {w : World} {g cap n : Nat} {ys : List Int} (h : RowAt w g cap n ys) : Own 5 w g (g + 1) (.slice (some ⟨g, 0, none⟩) n cap) n ys := ⟨h, fun k hk => by cases hk; exact Nat.lt_succ_self _⟩

theorem step_fresh {P : Program} {ops : Array Oper} {o : Oper} {a : Act} {K : Act → World → Prop} {Q : Exit → Act → World → Prop} {E : Prop} {i : TypeInfo} {wr w0 : World} {B m c lo : Nat} {p : Option Addr} {ys : List Int}
    (hi : P.info? 5 = some i) (hz : i.zero = some (.int .u8 0)) (hsize : i.size = 1) (hby : i.bytes = 1) (s y : Operand) (t : TypeId) (ht : P.underlying t = some (.slice 5)) (hgd : o.guard = none) (ho : o.op = .call { callee := .builtin .append, args := #[s, y], argTypes := #[t, t] }) (hs : a.eval s = .slice (some ⟨B, 0, none⟩) 0 0) (hy : a.eval y = .slice p m c)
    (hE : Emp wr B) (hin : BytesIn wr p m ys) (hl : ys.length = m) (hm : 0 < m) (hm' : m ≤ 1048576) (hb : Below lo w0 wr) (hlo : lo ≤ B)
    (h : ∀ g cap w', RowAt w' g cap m ys → (g = B ∨ g = wr.heap.size) → g < w'.heap.size → wr.heap.size ≤ w'.heap.size → wr.grownBy w' (some B) → Below lo w0 w' → K (a.put o.dst (.slice (some ⟨g, 0, none⟩) m cap)) w') :
    if Region.wanted o (yielded ops a.tmps) = true then Oper.wp P o a wr K Q else E := by
  obtain ⟨b, of, rfl, hc⟩ := hin hm
  have hown : wr.ownsRow B 5 1 (.slice (some ⟨B, 0, none⟩) 0 0) 0 (([] : List Int).map (Value.int .u8)) := ⟨rfl, .inr ⟨B, 0, #[], rfl, Nat.le_refl _, hE, Nat.le_refl _, Nat.zero_le _, rfl, rfl⟩⟩
  refine step_append_lies _ hgd s y t ho B 5 i (.int .u8 0) 1 1 ht hi hz hsize hby rfl (by decide) _ 0 _ hs hown ⟨b, of, none⟩ m c (ys.map (Value.int .u8)) hy (by simp [hl]) (fun j u hu => ?_) (fun u hu => ?_) hm (by unfold maxLen; omega) (by omega) (Nat.le_of_lt hE.lt) _ rfl fun g cap w' ho' hg hgg hlt => ?_
  · rw [List.getElem?_map] at hu
    obtain ⟨v, hv, rfl⟩ := Option.map_eq_some_iff.1 hu
    have hj := (List.getElem?_eq_some_iff.1 hv).1
    rw [Addr.add_lit, hc j (by omega), List.getD_eq_getElem?_getD, hv]
    rfl
  · obtain ⟨v, _, rfl⟩ := List.mem_map.1 hu
    rfl
  · rw [Nat.zero_add] at ho' ⊢
    have hrow : RowAt w' g cap m ys := by
      refine ⟨ho'.1, .inr ?_⟩
      rcases ho'.2 with ⟨hv, _⟩ | ⟨g', cap', cur, hv, h1, h2, h3, h4, h5, h6⟩
      · cases hv
      · cases hv
        exact ⟨g, cap, cur, rfl, Nat.le_refl _, h2, h3, h4, h5, h6⟩
    exact h g cap w' hrow (hgg.imp (fun e => (Option.some.inj e).symm) id) hlt hg.size hg (hb.grown hg (Nat.le_of_lt (Nat.lt_of_le_of_lt hlo hE.lt)) fun k hk => by cases hk; exact hlo)

end Go.Proofs.YtelfejgpphoifaaDoor
