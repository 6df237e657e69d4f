/-
  A shelf: a map by route whose rows tell, in order, what waits for each route. Conditions: none beyond each fact's own.
-/
import Derived.Test.YthfnechcddmjkaaGreatDoorPar12
import Derived.Test.YthfnechcddmjkaaGreatDoorPar14
namespace Go.Proofs.YthfnechcddmjkaaGreatDoor
open Go.RowKit
set_option maxRecDepth 100000

structure PIt where
  k : Int
  x : ItA
instance : Inhabited PIt := ⟨⟨0, default⟩⟩
def PIt.vals (z : PIt) : List Value := .int .i64 z.k :: z.x.vals
def flatP (l : List PIt) : List Value := l.flatMap PIt.vals
theorem flatP_cons (z : PIt) (r : List PIt) : flatP (z :: r) = z.vals ++ flatP r := by simp [flatP]
theorem flatP_append (a b : List PIt) : flatP (a ++ b) = flatP a ++ flatP b := by simp [flatP]
theorem PIt.vals_length (z : PIt) : z.vals.length = 5 := rfl
theorem flatP_at (l : List PIt) (i j : Nat) (hj : j < 5) (hi : i < l.length) : (flatP l)[i * 5 + j]? = (l.getD i default).vals[j]? := by
  induction l generalizing i with
  | nil => simp at hi
  | cons x r ih =>
    rw [flatP_cons]
    cases i with
    | zero => rw [List.getElem?_append_left (by rw [PIt.vals_length]; omega)]; simp
    | succ i =>
      rw [List.getElem?_append_right (by rw [PIt.vals_length]; omega), PIt.vals_length, show (i + 1) * 5 + j - 5 = i * 5 + j by omega, ih i (by simpa using hi)]
      simp
theorem flatP_one (l : List PIt) : ∀ v ∈ flatP l, v.oneCell' = true := by
  intro v hv
  obtain ⟨z, _, hz⟩ := List.mem_flatMap.1 hv
  simp only [PIt.vals, ItA.vals, List.mem_cons, List.not_mem_nil, or_false] at hz
  rcases hz with rfl | rfl | rfl | rfl | rfl <;> rfl

def ofR (s : ByteArray) (L : List PIt) : List PIt := L.filter (fun z => decide (z.x.s = s))
theorem ofR_append (s : ByteArray) (a b : List PIt) : ofR s (a ++ b) = ofR s a ++ ofR s b := by simp [ofR]
theorem ofR_same (z : PIt) : ofR z.x.s [z] = [z] := by simp [ofR]
theorem ofR_other (s : ByteArray) (z : PIt) (h : z.x.s ≠ s) : ofR s [z] = [] := by simp [ofR, h]
theorem ofR_len (s : ByteArray) (L : List PIt) : (ofR s L).length ≤ L.length := List.length_filter_le _ _

structure Rows13 (w : World) (lo S B n : Nat) (m : ByteArray → Option Value) (L : List PIt) : Prop where
  map : MapW w B n m
  loB : lo ≤ B
  noRow : ∀ s, ofR s L = [] → m s = none
  aRow : ∀ s, ofR s L ≠ [] → ∃ v, m s = some v ∧ w.ownsRow lo 199 5 v (ofR s L).length (flatP (ofR s L))
  apart : ∀ s s' v v', s ≠ s' → m s = some v → m s' = some v' → v.ownBlock ≠ v'.ownBlock
  off : ∀ s v, m s = some v → v.ownBlock ≠ some S
def Shelf (w : World) (lo S : Nat) (L : List PIt) (nx : Int) (N : Nat) : Prop :=
  ∃ B n m, Cells w S #[.map (some B), .int .i64 nx] ∧ lo ≤ S ∧ n ≤ N ∧ Rows13 w lo S B n m L

theorem MapW.block {w : World} {B n : Nat} {m : ByteArray → Option Value} (h : MapW w B n m) : ∃ es c, w.heap[B]? = some (.map es c) := by
  obtain ⟨D, ⟨es, c, h, _⟩, _⟩ := h
  exact ⟨es, c, h⟩
theorem row_not_map {w : World} {B n : Nat} {m : ByteArray → Option Value} (h : MapW w B n m) {lo e size k : Nat} {v : Value} {xs : List Value} (hr : w.ownsRow lo e size v k xs) : v.ownBlock ≠ some B := by
  obtain ⟨es, c, hb⟩ := h.block
  rcases hr.2 with ⟨rfl, _⟩ | ⟨g, cap, cur, rfl, _, hg, _⟩
  · simp [Value.ownBlock]
  · simp only [Value.ownBlock, ne_eq, Option.some.injEq]
    intro e
    rw [e, hb] at hg
    cases hg
theorem cells_not_map {w : World} {B n S : Nat} {m : ByteArray → Option Value} (h : MapW w B n m) {A : Array Value} (hc : Cells w S A) (hA : 0 < A.size) : B ≠ S := by
  obtain ⟨es, c, hb⟩ := h.block
  rintro rfl
  have := (hc.2 0).1
  rw [Array.getElem?_eq_getElem hA] at this
  simp [World.cell?, hb] at this
theorem Rows13.kept {w w' : World} {lo S B n : Nat} {m : ByteArray → Option Value} {L : List PIt} {row : Option Nat} (h : Rows13 w lo S B n m L) (hg : w.grownBy w' row) (hB : some B ≠ row) (hr : ∀ s v, m s = some v → v.ownBlock ≠ row) : Rows13 w' lo S B n m L :=
  ⟨h.map.kept hg hB, h.loB, h.noRow, fun s hs => by obtain ⟨v, hv, ho⟩ := h.aRow s hs; exact ⟨v, hv, ho.kept hg (.inr (hr s v hv))⟩, h.apart, h.off⟩
theorem Rows13.on {w w' : World} {lo S B n : Nat} {m : ByteArray → Option Value} {L : List PIt} (h : Rows13 w lo S B n m L) (b : Below w.heap.size w w') : Rows13 w' lo S B n m L :=
  ⟨h.map.on b, h.loB, h.noRow, fun s hs => by obtain ⟨v, hv, ho⟩ := h.aRow s hs; exact ⟨v, hv, owns_below ho b⟩, h.apart, h.off⟩
theorem Shelf.on {w w' : World} {lo S : Nat} {L : List PIt} {nx : Int} {N : Nat} (h : Shelf w lo S L nx N) (b : Below w.heap.size w w') : Shelf w' lo S L nx N := by
  obtain ⟨B, n, m, hc, h1, h2, h3⟩ := h
  exact ⟨B, n, m, hc.on b, h1, h2, h3.on b⟩
theorem Rows13.row {w : World} {lo S B n : Nat} {m : ByteArray → Option Value} {L : List PIt} (h : Rows13 w lo S B n m L) (s : ByteArray) : w.ownsRow lo 199 5 ((m s).getD (.slice none 0 0)) (ofR s L).length (flatP (ofR s L)) := by
  by_cases e : ofR s L = []
  · rw [h.noRow s e, e]
    exact World.ownsRow_nil _ _ _ _
  · obtain ⟨v, hv, ho⟩ := h.aRow s e
    rw [hv]
    exact ho
theorem Rows13.has {w : World} {lo S B n : Nat} {m : ByteArray → Option Value} {L : List PIt} (h : Rows13 w lo S B n m L) (s : ByteArray) : (m s).isSome = decide (ofR s L ≠ []) := by
  by_cases e : ofR s L = []
  · rw [h.noRow s e, e]; rfl
  · obtain ⟨v, hv, _⟩ := h.aRow s e
    rw [hv, decide_eq_true e]; rfl
theorem Rows13.ne {w : World} {lo S B n : Nat} {m : ByteArray → Option Value} {L : List PIt} (h : Rows13 w lo S B n m L) {s : ByteArray} {v : Value} (hv : m s = Option.some v) : v.ownBlock ≠ Option.none := by
  have e : ofR s L ≠ [] := fun e => by rw [h.noRow s e] at hv; cases hv
  obtain ⟨v', hv', ho⟩ := h.aRow s e
  rw [hv] at hv'
  cases hv'
  rcases ho.2 with ⟨_, h0⟩ | ⟨g, cap, cur, rfl, _⟩
  · exact absurd (List.length_eq_zero_iff.1 h0) e
  · simp [Value.ownBlock]

theorem Rows13.add {w w1 w2 : World} {lo S B n : Nat} {m : ByteArray → Option Value} {L : List PIt} {z : PIt} {v' : Value} (h : Rows13 w lo S B n m L) (hg : w.grownBy w1 ((m z.x.s).getD (.slice none 0 0)).ownBlock) (hS : S < w.heap.size)
    (hrow : w1.ownsRow lo 199 5 v' ((ofR z.x.s L).length + 1) (flatP (ofR z.x.s L) ++ z.vals)) (hloc : ((m z.x.s).getD (.slice none 0 0)).ownBlock = v'.ownBlock ∨ ∃ g, v'.ownBlock = Option.some g ∧ w.heap.size ≤ g)
    (hmap : MapW w2 B (n + 1) (fun y => if y = z.x.s then Option.some v' else m y)) (ht : w1.grownBy w2 (Option.some B)) : Rows13 w2 lo S B (n + 1) (fun y => if y = z.x.s then Option.some v' else m y) (L ++ [z]) := by
  have hB : Option.some B ≠ ((m z.x.s).getD (.slice none 0 0)).ownBlock := fun e => row_not_map h.map (h.row z.x.s) e.symm
  have hrows : ∀ s, s ≠ z.x.s → ofR s (L ++ [z]) = ofR s L := fun s hs => by rw [ofR_append, ofR_other s z (Ne.symm hs), List.append_nil]
  have hsame : ofR z.x.s (L ++ [z]) = ofR z.x.s L ++ [z] := by rw [ofR_append, ofR_same]
  have hB1 : w1.heap[B]? = w.heap[B]? := hg.block B h.map.lt hB
  have hv'B : v'.ownBlock ≠ Option.some B := fun e => by
    obtain ⟨es, c, hb⟩ := h.map.block
    rcases hrow.2 with ⟨rfl, h0⟩ | ⟨g, cap, cur, rfl, _, hgg, _⟩
    · omega
    · simp only [Value.ownBlock, Option.some.injEq] at e
      subst e
      rw [hB1, hb] at hgg
      cases hgg
  have hold : ∀ s v, s ≠ z.x.s → m s = Option.some v → v.ownBlock ≠ ((m z.x.s).getD (.slice none 0 0)).ownBlock := fun s v hs hv e => by
    cases hz : m z.x.s with
    | none => rw [hz] at e; exact h.ne hv e
    | some u => rw [hz] at e; exact h.apart s z.x.s v u hs hv hz e
  have hlt : ∀ s v k, m s = Option.some v → v.ownBlock = Option.some k → k < w.heap.size := fun s v k hv hk => by
    have hr := h.row s
    rw [hv] at hr
    exact (hr.lt k hk).2
  have hfar : ∀ s v, s ≠ z.x.s → m s = Option.some v → v.ownBlock ≠ v'.ownBlock := fun s v hs hv e => by
    rcases hloc with e2 | ⟨g, e2, hgw⟩
    · exact hold s v hs hv (e.trans e2.symm)
    · have := hlt s v g hv (e.trans e2); omega
  refine ⟨hmap, h.loB, fun s hs => ?_, fun s hs => ?_, fun s s' v u hss hv hu => ?_, fun s v hv => ?_⟩
  · by_cases e : s = z.x.s
    · subst e; rw [hsame] at hs; simp at hs
    · rw [hrows s e] at hs
      simp only [if_neg e]
      exact h.noRow s hs
  · by_cases e : s = z.x.s
    · subst e
      refine ⟨v', by simp, ?_⟩
      rw [hsame, flatP_append, List.length_append]
      have : flatP [z] = z.vals := by simp [flatP]
      rw [this]
      exact hrow.kept ht (.inr hv'B)
    · rw [hrows s e] at hs ⊢
      obtain ⟨v, hv, ho⟩ := h.aRow s hs
      refine ⟨v, by simp only [if_neg e]; exact hv, (ho.kept hg (.inr (hold s v e hv))).kept ht (.inr (row_not_map h.map ho))⟩
  · by_cases e : s = z.x.s
    · subst e
      simp only [if_true, Option.some.injEq] at hv
      subst hv
      simp only [if_neg (Ne.symm hss)] at hu
      exact fun k => hfar s' u (Ne.symm hss) hu k.symm
    · simp only [if_neg e] at hv
      by_cases e' : s' = z.x.s
      · subst e'
        simp only [if_true, Option.some.injEq] at hu
        subst hu
        exact hfar s v e hv
      · simp only [if_neg e'] at hu
        exact h.apart s s' v u hss hv hu
  · by_cases e : s = z.x.s
    · subst e
      simp only [if_true, Option.some.injEq] at hv
      subst hv
      rcases hloc with e2 | ⟨g, e2, hgw⟩
      · cases hz : m z.x.s with
        | none => rw [hz] at e2; rw [← e2]; simp [Value.ownBlock]
        | some u => rw [hz] at e2; rw [← e2]; exact h.off z.x.s u hz
      · rw [e2]
        intro k
        simp only [Option.some.injEq] at k
        omega
    · simp only [if_neg e] at hv
      exact h.off s v hv

end Go.Proofs.YthfnechcddmjkaaGreatDoor
