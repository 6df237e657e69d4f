/-
  The table of places, as a row's text lays it (an array of arrays of ints), is as the walks ask for it.
-/
import Derived.Test.YtcmbglelllcbdalDoorImplBlk
import Derived.Lib.LaidTab
namespace Go.Proofs.YtcmbglelllcbdalDoor
open Go.RowKit

/-- An array of arrays of integers that reads as the table holds the table's numbers, row for row. -/
theorem cells_of_tab2 {H : Type} {enc : TypeId × Value → H} {P : Program} {w : World} {base : Nat} {sp : Nat → Bool} {held : Bool} {fuel : Nat} {t t2 e : TypeId} {n m : Nat} {k : IntKind} {cs : List Value} {zss : List (List Int)} {p : List MemPlace}
    (ht : P.underlying t = some (.array n t2)) (ht2 : P.underlying t2 = some (.array m e)) (he : P.underlying e = some (.int k)) (hce : P.cellsOf e = 1) (hc2 : P.cellsOf t2 = m)
    (h : DataW.trod enc P w base sp held fuel t cs = some (.agg (zss.map (Lib.tabData k)), p)) : ∀ i zs, zss[i]? = some zs → (cs.drop (i * m)).take m = zs.map fun z => Value.int k z := by
  cases fuel with
  | zero => simp [DataW.trod] at h
  | succ fuel =>
    simp only [DataW.trod, ht, hc2] at h
    split at h
    · obtain ⟨xs, hm, hx⟩ := Option.map_eq_some_iff.1 h
      have hxs : xs.map (·.1) = zss.map (Lib.tabData (H := H) k) := by
        have := congrArg Prod.fst hx
        simpa using this
      have hxl : xs.length = n := by simpa using Lib.mapM_length hm
      intro i zs hz
      have hi : i < n := by
        have h1 : i < zss.length := (List.getElem?_eq_some_iff.1 hz).1
        have := congrArg List.length hxs
        simp at this
        omega
      obtain ⟨b, hb, hf⟩ := Lib.mapM_at hm i i (by simp [hi])
      have h2 : (xs.map (·.1))[i]? = some b.1 := by simp [hb]
      rw [hxs, List.getElem?_map, hz] at h2
      have h3 : b = (Lib.tabData k zs, b.2) := by
        have := Option.some.inj h2
        rw [this]
      rw [h3] at hf
      exact Lib.cells_of_tab ht2 he hce hc2 hf
    · cases h

theorem places_of {W : World} {rest : List (String × DataW Unit)} (h : laidMet Tryd.prog (("loop.example/g00473/impl.quarterPlaces", .agg ((placesL.map castL).map (Lib.tabData .i64))) :: rest) W) : PlacesIs W := by
  obtain ⟨ps, ⟨g', t', cs, fuel, p, q, hg', ht', hvar, hd, _, _⟩, _⟩ := h
  have hg : Tryd.prog.globalNamed "loop.example/g00473/impl.quarterPlaces" = some 0 := by kernel_rfl
  have hty : (Tryd.prog.globals[0]?).map (·.type) = some 73 := by kernel_rfl
  obtain rfl := Option.some.inj (hg.symm.trans hg')
  obtain rfl := Option.some.inj (hty.symm.trans ht')
  have key := cells_of_tab2 Tryd.underlying73 Tryd.underlying72 Tryd.underlying3 (by kernel_rfl) (by kernel_rfl) hd
  intro j v hv
  have hj : j < 32 := (List.getElem?_eq_some_iff.1 hv).1
  have hc := World.var?_cell hg hvar j
  rw [Nat.zero_add, hc]
  obtain ⟨a, b, ha, hb, rfl⟩ : ∃ a b, a < 8 ∧ b < 4 ∧ j = a * 4 + b := ⟨j / 4, j % 4, by omega, by omega, by omega⟩
  have k1 := fun zs hz => congrArg (fun l : List Value => l[b]?) (key a zs hz)
  simp only [List.getElem?_take, List.getElem?_drop, if_pos hb] at k1
  have h8 : a = 0 ∨ a = 1 ∨ a = 2 ∨ a = 3 ∨ a = 4 ∨ a = 5 ∨ a = 6 ∨ a = 7 := by omega
  have h4 : b = 0 ∨ b = 1 ∨ b = 2 ∨ b = 3 := by omega
  have e : cs[a * 4 + b]? = cs.toList[a * 4 + b]? := by simp
  rw [e]
  clear e hc hvar hd key
  rcases h8 with rfl | rfl | rfl | rfl | rfl | rfl | rfl | rfl <;> rcases h4 with rfl | rfl | rfl | rfl <;> exact (k1 _ rfl).trans hv

end Go.Proofs.YtcmbglelllcbdalDoor
