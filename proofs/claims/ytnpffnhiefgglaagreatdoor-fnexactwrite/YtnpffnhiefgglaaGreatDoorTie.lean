/-
  DERIVED. GIVEN WITH THE SEED: THE PROGRAM's TIES (one call each: nine closed facts by the kernel) AND EACH ROW's TIE, after the 31st guide's Derived/Test/Toyas{Tie, Card}.lean. No idea stands in it: it is a product of the set-up. Laid BY PROGRAM, IN A SANDBOX (cutbox-door.mjs). By AI agents, Wed Nov 11 2026. No macro, syntax, notation, axiom, sorry.
-/
import Derived.Test.YtnpffnhiefgglaaGreatDoorRows
import Derived.LaidByTextLater
import Derived.SevenTiedAt
import Derived.LaidSub
import Derived.LaidOnce
namespace Go.Proofs.YtnpffnhiefgglaaGreatDoor
open Go
set_option maxRecDepth 100000
theorem seatTie1 : Tryz.prog.laidByTextLater [("loop.example/g00473/impl.hashKeys", Rows.laid_loop_example_g00473_impl_hashKeys), ("loop.example/g00473/impl.quarterPlaces", Rows.laid_loop_example_g00473_impl_quarterPlaces), ("loop.example/g00473/impl.errNotOpened", Rows.laid_loop_example_g00473_impl_errNotOpened)] [.data, .data, .sentinel] true :=
  Program.laidByTextLater_by_one 46 8 65 (by kernel_rfl) (by kernel_rfl) (by kernel_rfl) (by kernel_rfl) (by kernel_rfl) (by kernel_rfl) (fun _ _ => by kernel_rfl)
theorem noOwnUnsafe : Tryz.pinned.checked.prog.headLifts.contains "ownunsafe" = false := by kernel_rfl
theorem tie : Tryz.prog.laidByTextLater [("loop.example/g00473/impl.hashKeys", Rows.laid_loop_example_g00473_impl_hashKeys), ("loop.example/g00473/impl.quarterPlaces", Rows.laid_loop_example_g00473_impl_quarterPlaces), ("loop.example/g00473/impl.errNotOpened", Rows.laid_loop_example_g00473_impl_errNotOpened)] [.data, .data, .sentinel] true :=
  Program.laidByTextLater.sub seatTie1 ["loop.example/g00473/impl.hashKeys", "loop.example/g00473/impl.quarterPlaces", "loop.example/g00473/impl.errNotOpened"] (by kernel_rfl) (by kernel_rfl)
theorem fnWritten_row_tie : Rows.fnWrittenRow.laidByTextAt .later Tryz.pinned [.data, .data, .sentinel] true :=
  OpenClaim.laidByTextAt_later rfl rfl tie noOwnUnsafe
theorem fnExactReadBy_row_tie : Rows.fnExactReadByRow.laidByTextAt .later Tryz.pinned [.data, .data, .sentinel] true :=
  OpenClaim.laidByTextAt_later rfl rfl tie noOwnUnsafe
theorem tie2 : Tryz.prog.laidByTextLater [("loop.example/g00473/impl.hashKeys", Rows.laid_loop_example_g00473_impl_hashKeys), ("loop.example/g00473/impl.quarterPlaces", Rows.laid_loop_example_g00473_impl_quarterPlaces)] [.data, .data] true :=
  Program.laidByTextLater.sub seatTie1 ["loop.example/g00473/impl.hashKeys", "loop.example/g00473/impl.quarterPlaces"] (by kernel_rfl) (by kernel_rfl)
theorem fnExactWrite_row_tie : Rows.fnExactWriteRow.laidByTextAt .later Tryz.pinned [.data, .data] true :=
  OpenClaim.laidByTextAt_later rfl rfl tie2 noOwnUnsafe
theorem fnExactWriteUpto_row_tie : Rows.fnExactWriteUptoRow.laidByTextAt .later Tryz.pinned [.data, .data] true :=
  OpenClaim.laidByTextAt_later rfl rfl tie2 noOwnUnsafe
theorem fnExactReadByUpto_row_tie : Rows.fnExactReadByUptoRow.laidByTextAt .later Tryz.pinned [.data, .data, .sentinel] true :=
  OpenClaim.laidByTextAt_later rfl rfl tie noOwnUnsafe
end Go.Proofs.YtnpffnhiefgglaaGreatDoor
