/-
  What the laws of lists of items are told: their size, what is asked of each. Conditions: none beyond each fact's own.
-/
import Derived.Test.YtkdbcplcpcdnbaaItemsSz
import Derived.Test.YtkdbcplcpcdnbaaItemsEq
namespace Go.Proofs.Ytkdbcplcpcdnbaa
open Go.RowKit
set_option maxRecDepth 100000

theorem con_mem {its its' : List ItA} (e : its'.map ItA.con = its.map ItA.con) {x : ItA} (h : x ∈ its') : ∃ y ∈ its, y.con = x.con := by
  have : x.con ∈ its'.map ItA.con := List.mem_map.2 ⟨x, h, rfl⟩
  rw [e] at this
  obtain ⟨y, hy, h2⟩ := List.mem_map.1 this
  exact ⟨y, hy, h2⟩
theorem con_len {its its' : List ItA} (e : its'.map ItA.con = its.map ItA.con) : its'.length = its.length := by
  have := congrArg List.length e
  simpa using this
/-- What is small of the items is so of their copies. -/
theorem small_con {its its' : List ItA} (e : its'.map ItA.con = its.map ItA.con) (h : ∀ x ∈ its, x.s.size ≤ 1048576 ∧ x.xs.length ≤ 1048576) : ∀ x ∈ its', x.s.size ≤ 1048576 ∧ x.xs.length ≤ 1048576 := fun x hx => by
  obtain ⟨y, hy, h2⟩ := con_mem e hx
  have := h y hy
  simp only [ItA.con, Prod.mk.injEq] at h2
  rw [← h2.1, ← h2.2.2.2]
  exact this
theorem small_of {w : World} {its : List ItA} (ok : ∀ x ∈ its, x.Ok w) (h : totI its ≤ 1048576) : ∀ x ∈ its, x.s.size ≤ 1048576 ∧ x.xs.length ≤ 1048576 := fun x hx => by
  have := totI_mem its x hx
  have := (ok x hx).len
  exact ⟨by omega, by omega⟩
theorem fit_of {its : List ItA} (h : totI its ≤ 1048576) : ∀ x ∈ its, x.n ≤ 1048576 := fun x hx => by
  have := totI_mem its x hx
  omega

end Go.Proofs.Ytkdbcplcpcdnbaa
