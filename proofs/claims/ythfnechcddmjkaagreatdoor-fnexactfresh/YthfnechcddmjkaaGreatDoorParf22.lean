/-
  A reader that is an argument, by its cells. No conditions beyond what a law's row says of its argument.
-/
import Derived.Test.YthfnechcddmjkaaGreatDoorParf04
import Derived.Lib.SmallJoins
import Derived.Deep.Slices
import Derived.Test.YthfnechcddmjkaaGreatDoorRows
namespace Go.Proofs.YthfnechcddmjkaaGreatDoor
open Go.ChangeShapes Go.WideShapes Go.ChangeAt Go.RowKit
set_option maxRecDepth 100000

theorem row_cells {H : Type} {enc : TypeId × Value → H} {w : World} {base : Nat} {spare : Nat → Bool} {held : Bool} {fuel : Nat} {u : Value} {y : DataW H × List MemPlace}
    (t : DataW.trod enc Tryz.prog w base spare held fuel 22 [u] = some y) : ∃ x : RwA, u = x.val ∧ x.Ok w := by
  rcases open_ints Tryz.underlying22 Tryz.underlying5 (by kernel_rfl) t with ⟨hcs, _⟩ | ⟨a, l, c, zs, hcs, _, hl, hm, hz, _, hcell, hwz⟩
  · simp only [List.cons.injEq, and_true] at hcs
    subst hcs
    exact ⟨⟨none, 0, 0, []⟩, rfl, ⟨by show 0 ≤ _; omega, rfl, fun h => absurd h (Nat.lt_irrefl 0), fun y hy => by simp at hy⟩⟩
  · simp only [List.cons.injEq, and_true] at hcs
    subst hcs
    have hle : l ≤ zs.length := by rw [hz]; split <;> omega
    refine ⟨⟨some a, l, c, zs.take l⟩, rfl, ⟨by show l ≤ _; unfold maxLen at hm; omega, by show (zs.take l).length = l; simp; omega, ?_, ?_⟩⟩
    · intro hn
      show ∃ b o, some a = some ⟨b, o, none⟩ ∧ ∀ i, i < l → _
      replace hn : 0 < l := hn
      obtain ⟨b, off, spot⟩ := a
      have hsp : spot = none := by simpa [Addr.add] using World.cell?_spot (hcell 0 (by omega))
      subst hsp
      refine ⟨b, off, rfl, fun i hi => ?_⟩
      have := hcell i (by omega)
      rw [Addr.add_lit] at this
      rw [this]
      simp [hi]
    · intro y hy
      have := bounds_u8 (hwz y (List.mem_of_mem_take hy))
      omega

end Go.Proofs.YthfnechcddmjkaaGreatDoor
