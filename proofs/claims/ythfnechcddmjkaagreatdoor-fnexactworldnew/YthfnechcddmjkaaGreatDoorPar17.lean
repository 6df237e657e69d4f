/-
  How many items there are of a route, as the specification counts them; conditions: items that lie there, as many as a law hands over.
-/
import Derived.Test.YthfnechcddmjkaaGreatDoorPar13
import Derived.Test.YthfnechcddmjkaaGreatDoorPar03
namespace Go.Proofs.YthfnechcddmjkaaGreatDoor
open Go.RowKit
set_option maxRecDepth 100000

theorem bit_any (b : Bool) (X : World) : Calls Tryz.prog 142 #[.bool b] X fun e w' => e = .returned (.int .i64 (if b then 1 else 0)) ∧ w' = X := by
  cases b
  · go_enter Tryz.func142, Tryz.ntmps142
    go_wp2_with (fail)
    go_ret
    exact ⟨rfl, rfl⟩
  · go_enter Tryz.func142, Tryz.ntmps142
    go_wp2_with (fail)
    go_ret
    exact ⟨rfl, rfl⟩

def cntI (s : ByteArray) (its : List ItA) : Nat := its.countP (fun x => decide (x.s = s))

theorem cntI_step (s : ByteArray) (its : List ItA) (k : Nat) (hk : k < its.length) : cntI s (its.take (k + 1)) = cntI s (its.take k) + if (its.getD k default).s = s then 1 else 0 := by
  unfold cntI
  have e : its.take (k + 1) = its.take k ++ [its.getD k default] := by
    rw [List.take_add_one, List.getElem?_eq_getElem hk]
    simp [List.getD_eq_getElem?_getD, List.getElem?_eq_getElem hk]
  rw [e, List.countP_append, List.countP_singleton]
  by_cases h : (its.getD k default).s = s <;> simp
theorem cntI_le (s : ByteArray) (its : List ItA) : cntI s its ≤ its.length := List.countP_le_length

theorem str_eq_any (a b : ByteArray) : (a.toList == b.toList) = decide (a = b) := by
  by_cases h : a = b
  · subst h; simp
  · rw [str_ne h, decide_eq_false h]

end Go.Proofs.YthfnechcddmjkaaGreatDoor
