/-
  What spec.Same and impl.Same answer, whatever bytes they are given; no condition.
-/
import Derived.Test.YtncaihcfadllbabDoorInfo
namespace Go.Proofs.YtncaihcfadllbabDoor
open Go.RowKit

theorem implSame_any (p q : Option Addr) (n m c d : Nat) (xs ys : List Int) (w : World) (hx : xs.length = n) (hy : ys.length = m) (h : BytesIn w p n xs) (h' : BytesIn w q m ys) :
    Calls Tryd.prog 11 #[.slice p n c, .slice q m d] w fun e w' => e = .returned (.bool ((strOfNums xs).toList == (strOfNums ys).toList)) ∧ Below w.heap.size w w' := by
  have g := text_of (P := Tryd.prog) h hx c 22 5 9 Tryd.underlying22 Tryd.underlying5 Tryd.underlying9
  have g' := text_of (P := Tryd.prog) h' hy d 22 5 9 Tryd.underlying22 Tryd.underlying5 Tryd.underlying9
  go_enter Tryd.func11, Tryd.ntmps11
  go_wp2
  go_ret
  exact ⟨rfl, Below.refl _ _⟩

end Go.Proofs.YtncaihcfadllbabDoor
