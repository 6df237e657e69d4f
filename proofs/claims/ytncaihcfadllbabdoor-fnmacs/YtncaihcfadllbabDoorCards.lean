/-
  DERIVED. GIVEN WITH THE SEED: THE CARDS: each row of YtncaihcfadllbabDoorRows.lean that lists a variable, with what it lists TIED to the program's text (the seventh form; the later family's looks); each row that meets fmt, with fmt's text TOLD by the authors' own Lean function (tested against real Go, not proved from fmt's source: count such statements apart). THE CARD IS WHAT COUNTS. Prove the row's statement (the work); the ties are given (YtncaihcfadllbabDoorTie.lean); close each card by the builder's one call (the guide's Derived/Test/ToyasCard.lean, 'card_holds'). Laid BY PROGRAM, IN A SANDBOX (cutbox-door.mjs). By AI agents, Wed Nov 11 2026. No macro, syntax, notation, axiom, sorry.
-/
import Derived.Test.YtncaihcfadllbabDoorRows
import GoSem.ClaimSeven
namespace Go.Proofs.YtncaihcfadllbabDoor
namespace Rows

/-- THE TIED CARD OF 'laws.FnHashes'. -/
def fnHashesCard : Claim7 := { stood := { row := fnHashesRow, standIns := [], harness := (true, "54d0205f809a053f807baede2b8d6ef736c18fd8311b1553ed7a06aed8e6413a"), looks := false }, kinds := [], alts := [], laidByText := true, laidKinds := [.data], laidTests := true, laidLooks := .later }
def FnHashesCardSaid : Prop := Claim7.holds Tryd.pinned (.plain (OpenSpec.ofChange fnHashesSpec)) fnHashesCard

/-- THE TIED CARD OF 'laws.FnMacs'. -/
def fnMacsCard : Claim7 := { stood := { row := fnMacsRow, standIns := [], harness := (true, "54d0205f809a053f807baede2b8d6ef736c18fd8311b1553ed7a06aed8e6413a"), looks := false }, kinds := [], alts := [], laidByText := true, laidKinds := [.data], laidTests := true, laidLooks := .later }
def FnMacsCardSaid : Prop := Claim7.holds Tryd.pinned (.plain (OpenSpec.ofChange fnMacsSpec)) fnMacsCard

/-- THE SECOND FORM's CARD OF 'laws.FnHashes'. -/
def fnHashesUptoCard : Claim7 := { stood := { row := fnHashesUptoRow, standIns := [], harness := (true, "54d0205f809a053f807baede2b8d6ef736c18fd8311b1553ed7a06aed8e6413a"), looks := false }, kinds := [], alts := [], laidByText := true, laidKinds := [.data], laidTests := true, laidLooks := .later }
def FnHashesUptoCardSaid : Prop := Claim7.holds Tryd.pinned (.plain (OpenSpec.upto fnHashesSpec)) fnHashesUptoCard

/-- THE SECOND FORM's CARD OF 'laws.FnMacs'. -/
def fnMacsUptoCard : Claim7 := { stood := { row := fnMacsUptoRow, standIns := [], harness := (true, "54d0205f809a053f807baede2b8d6ef736c18fd8311b1553ed7a06aed8e6413a"), looks := false }, kinds := [], alts := [], laidByText := true, laidKinds := [.data], laidTests := true, laidLooks := .later }
def FnMacsUptoCardSaid : Prop := Claim7.holds Tryd.pinned (.plain (OpenSpec.upto fnMacsSpec)) fnMacsUptoCard
end Rows
end Go.Proofs.YtncaihcfadllbabDoor
