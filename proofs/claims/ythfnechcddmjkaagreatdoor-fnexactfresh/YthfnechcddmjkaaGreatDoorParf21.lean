/-
  The table of the rounds' numbers, as a row's text lays it, is as the walks ask for it.
-/
import Derived.Test.YthfnechcddmjkaaGreatDoorParf16
import Derived.Lib.LaidTab
namespace Go.Proofs.YthfnechcddmjkaaGreatDoor
open Go.RowKit
set_option maxRecDepth 100000

theorem keys_ofM {W : World} (h : Lib.TabIs Tryz.prog W "loop.example/g00473/impl.hashKeys" .u32 (natsL keysL)) : KeysIs W := fun t ht => by
  have := h.cell (g := 1) (by kernel_rfl) t (by rw [natsL_length]; exact ht)
  rw [this, ← natsL_getD]

end Go.Proofs.YthfnechcddmjkaaGreatDoor
