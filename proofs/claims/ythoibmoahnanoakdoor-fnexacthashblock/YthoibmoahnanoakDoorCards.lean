/-
  DERIVED. GIVEN WITH THE SEED: THE CARDS: each row of YthoibmoahnanoakDoorRows.lean that lists a variable, with what it lists TIED to the program's text (the seventh form; the later family's looks); each row that meets fmt, with fmt's text TOLD by the authors' own Lean function (tested against real Go, not proved from fmt's source: count such statements apart). THE CARD IS WHAT COUNTS. Prove the row's statement (the work); the ties are given (YthoibmoahnanoakDoorTie.lean); close each card by the builder's one call (the guide's Derived/Test/ToyasCard.lean, 'card_holds'). Laid BY PROGRAM, IN A SANDBOX (cutbox-door.mjs). By AI agents, Wed Nov 11 2026. No macro, syntax, notation, axiom, sorry.
-/
import Derived.Test.YthoibmoahnanoakDoorRows
import GoSem.ClaimSeven
namespace Go.Proofs.YthoibmoahnanoakDoor
namespace Rows

/-- THE TIED CARD OF 'laws.FnExactHashBlock'. -/
def fnExactHashBlockCard : Claim7 := { stood := { row := fnExactHashBlockRow, standIns := [], harness := (true, "742fcbc34832da81fcb3c65e41cf9ac8383fcc426a9185aaf807d178b1bf9484"), looks := false }, kinds := [], alts := [], laidByText := true, laidKinds := [.data], laidTests := true, laidLooks := .later }
def FnExactHashBlockCardSaid : Prop := Claim7.holds Tryd.pinned (.plain (OpenSpec.ofChange fnExactHashBlockSpec)) fnExactHashBlockCard

/-- THE TIED CARD OF 'laws.FnExactHash'. -/
def fnExactHashCard : Claim7 := { stood := { row := fnExactHashRow, standIns := [], harness := (true, "742fcbc34832da81fcb3c65e41cf9ac8383fcc426a9185aaf807d178b1bf9484"), looks := false }, kinds := [], alts := [], laidByText := true, laidKinds := [.data], laidTests := true, laidLooks := .later }
def FnExactHashCardSaid : Prop := Claim7.holds Tryd.pinned (.plain (OpenSpec.ofChange fnExactHashSpec)) fnExactHashCard

/-- THE SECOND FORM's CARD OF 'laws.FnExactHashBlock'. -/
def fnExactHashBlockUptoCard : Claim7 := { stood := { row := fnExactHashBlockUptoRow, standIns := [], harness := (true, "742fcbc34832da81fcb3c65e41cf9ac8383fcc426a9185aaf807d178b1bf9484"), looks := false }, kinds := [], alts := [], laidByText := true, laidKinds := [.data], laidTests := true, laidLooks := .later }
def FnExactHashBlockUptoCardSaid : Prop := Claim7.holds Tryd.pinned (.plain (OpenSpec.upto fnExactHashBlockSpec)) fnExactHashBlockUptoCard

/-- THE SECOND FORM's CARD OF 'laws.FnExactHash'. -/
def fnExactHashUptoCard : Claim7 := { stood := { row := fnExactHashUptoRow, standIns := [], harness := (true, "742fcbc34832da81fcb3c65e41cf9ac8383fcc426a9185aaf807d178b1bf9484"), looks := false }, kinds := [], alts := [], laidByText := true, laidKinds := [.data], laidTests := true, laidLooks := .later }
def FnExactHashUptoCardSaid : Prop := Claim7.holds Tryd.pinned (.plain (OpenSpec.upto fnExactHashSpec)) fnExactHashUptoCard
end Rows
end Go.Proofs.YthoibmoahnanoakDoor
