/-
  What the draws of chapter 2 hand over, whatever bytes they are drawn from: two ints, bytes and a yes or no, some ints and a yes or no; condition: at most 1048576 bytes, each of them one.
-/
import Derived.Test.YtncaihcfadllbabDoorDraws
import Derived.Test.YtncaihcfadllbabDoorInfoI
namespace Go.Proofs.YtncaihcfadllbabDoor
open Go.RowKit

theorem l2DrawNum_any (a : Nat) (p : Option Addr) (n c : Nat) (xs : List Int) (w : World) (hcur : Cur w a p n c xs) :
    Calls Tryd.prog 41 #[.pointer (some ⟨a, 0, none⟩)] w fun e w' => ∃ z : Int, e = .returned (.int .i64 z) ∧ Cur w' a p n c xs ∧ w.grownBy w' (some a) := by
  have hb0 : Below w.heap.size w (w.alloc (.cells (([0, 1, 305419896, 4294967295, 4294967296, -1, 9223372036854775807] : List Int).map (Value.int .i64)).toArray 3)) := (Below.refl _ _).alloc (Nat.le_refl _) _
  have ha := hcur.lt
  go_enter Tryd.func41, Tryd.ntmps41
  go_wp2_with (fail)
  refine (l1PickInt_any a p n c xs w.heap.size 7 [0, 1, 305419896, 4294967295, 4294967296, -1, 9223372036854775807] _ (by omega) (by omega) rfl (lit_ints w [0, 1, 305419896, 4294967295, 4294967296, -1, 9223372036854775807] 3) (by omega) (hcur.below hb0 ha hcur.code_lt)).mono ?_
  rintro e w2 ⟨z, hz, rfl, hc2, g2⟩
  have gg : w.grownBy w2 (some a) := grown_trans (World.grownBy_alloc w _ _) g2
  clear hz hb0 g2
  go_wp2_with (fail)
  go_ret
  exact ⟨z, rfl, hc2, gg⟩

end Go.Proofs.YtncaihcfadllbabDoor
