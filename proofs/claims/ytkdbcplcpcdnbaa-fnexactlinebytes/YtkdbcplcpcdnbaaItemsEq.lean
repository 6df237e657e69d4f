/-
  The laws' own functions of lists of items: whether two say the same, their size. Conditions: items that lie there.
-/
import Derived.Test.YtkdbcplcpcdnbaaItemsTo
import Derived.Deep.RegionHeld3
namespace Go.Proofs.Ytkdbcplcpcdnbaa
open Go.RowKit
set_option maxRecDepth 100000

/-- An item's bytes lie there. -/
structure ItA.Lies (w : World) (x : ItA) : Prop where
  hn : x.n ≤ 9223372036854775807
  len : x.xs.length = x.n
  bytes : BytesIn w x.p x.n x.xs
theorem ItA.Ok.lies {w : World} {x : ItA} (h : x.Ok w) : x.Lies w := ⟨h.hn, h.len, h.bytes⟩
theorem ItA.Lies.on {w w' : World} {x : ItA} (h : x.Lies w) (b : Below w.heap.size w w') : x.Lies w' := ⟨h.hn, h.len, in_below h.bytes b⟩
theorem OwnItems.lies {w : World} {lo hi : Nat} {v : Value} {n : Nat} {its : List ItA} (h : OwnItems w lo hi v n its) (hm : ∀ x ∈ its, x.xs.length ≤ 1048576) : ∀ x ∈ its, x.Lies w := fun x hx => by
  have hb : Own 5 w lo hi (.slice x.p x.n x.c) x.n x.xs := h.bytes x hx
  exact ⟨by have := hm x hx; have := hb.len; omega, hb.len, hb.bytes⟩

theorem getD_mem {α : Type} [Inhabited α] {l : List α} {k : Nat} (h : k < l.length) : l.getD k default ∈ l := by
  rw [List.getD_eq_getElem?_getD, List.getElem?_eq_getElem h]; exact List.getElem_mem _
theorem take_getD {α : Type} [Inhabited α] {l : List α} {k : Nat} (h : k < l.length) : l.take (k + 1) = l.take k ++ [l.getD k default] := by
  rw [List.take_add_one, List.getElem?_eq_getElem h]
  simp [List.getD_eq_getElem?_getD, List.getElem?_eq_getElem h]

/-- The cells of the item at a place. -/
theorem ItemsIn.at {w : World} {b o n : Nat} {its : List ItA} (h : ∀ i j v, i < n → (its.getD i default).vals[j]? = some v → w.cell? ⟨b, o + i * 4 + j, none⟩ = some v) {k : Nat} (hk : k < n) {x : ItA} (hx : its.getD k default = x) :
    w.cell? ⟨b, o + k * 4, none⟩ = some (.string x.s) ∧ w.cell? ⟨b, o + k * 4 + 1, none⟩ = some (.int .i64 x.t) ∧ w.cell? ⟨b, o + k * 4 + 2, none⟩ = some (.int .i64 x.d) ∧ w.cell? ⟨b, o + k * 4 + 3, none⟩ = some (.slice x.p x.n x.c) := by
  subst hx
  exact ⟨h k 0 _ hk rfl, h k 1 _ hk rfl, h k 2 _ hk rfl, h k 3 _ hk rfl⟩

end Go.Proofs.Ytkdbcplcpcdnbaa
