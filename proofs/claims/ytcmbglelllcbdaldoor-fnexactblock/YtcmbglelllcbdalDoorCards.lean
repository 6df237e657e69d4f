/-
  DERIVED. GIVEN WITH THE SEED: THE CARDS: each row of YtcmbglelllcbdalDoorRows.lean that lists a variable, with what it lists TIED to the program's text (the seventh form; the later family's looks); each row that meets fmt, with fmt's text TOLD by the authors' own Lean function (tested against real Go, not proved from fmt's source: count such statements apart). THE CARD IS WHAT COUNTS. Prove the row's statement (the work); the ties are given (YtcmbglelllcbdalDoorTie.lean); close each card by the builder's one call (the guide's Derived/Test/ToyasCard.lean, 'card_holds'). Laid BY PROGRAM, IN A SANDBOX (cutbox-door.mjs). By AI agents, Wed Nov 11 2026. No macro, syntax, notation, axiom, sorry.
-/
import Derived.Test.YtcmbglelllcbdalDoorRows
import GoSem.ClaimSeven
namespace Go.Proofs.YtcmbglelllcbdalDoor
namespace Rows

/-- THE TIED CARD OF 'laws.FnExactExtract'. -/
def fnExactExtractCard : Claim7 := { stood := { row := fnExactExtractRow, standIns := [], harness := (true, "40b8c5e39cecdbc3c9836bea370cc75df82fb92d38a3647af1c78eec080cbc78"), looks := false }, kinds := [], alts := [], goes := true, laidByText := true, laidKinds := [.data], laidTests := true, laidLooks := .later }
def FnExactExtractCardSaid : Prop := Claim7.holds Tryd.pinned (.plain (OpenSpec.ofChange fnExactExtractSpec)) fnExactExtractCard

/-- THE TIED CARD OF 'laws.FnExactExpand'. -/
def fnExactExpandCard : Claim7 := { stood := { row := fnExactExpandRow, standIns := [], harness := (true, "40b8c5e39cecdbc3c9836bea370cc75df82fb92d38a3647af1c78eec080cbc78"), looks := false }, kinds := [], alts := [], goes := true, laidByText := true, laidKinds := [.data], laidTests := true, laidLooks := .later }
def FnExactExpandCardSaid : Prop := Claim7.holds Tryd.pinned (.plain (OpenSpec.ofChange fnExactExpandSpec)) fnExactExpandCard

/-- THE TIED CARD OF 'laws.FnExactDerive'. -/
def fnExactDeriveCard : Claim7 := { stood := { row := fnExactDeriveRow, standIns := [], harness := (true, "40b8c5e39cecdbc3c9836bea370cc75df82fb92d38a3647af1c78eec080cbc78"), looks := false }, kinds := [], alts := [], goes := true, laidByText := true, laidKinds := [.data], laidTests := true, laidLooks := .later }
def FnExactDeriveCardSaid : Prop := Claim7.holds Tryd.pinned (.plain (OpenSpec.ofChange fnExactDeriveSpec)) fnExactDeriveCard

/-- THE TIED CARD OF 'laws.FnExactBlock'. -/
def fnExactBlockCard : Claim7 := { stood := { row := fnExactBlockRow, standIns := [], harness := (true, "40b8c5e39cecdbc3c9836bea370cc75df82fb92d38a3647af1c78eec080cbc78"), looks := false }, kinds := [], alts := [], goes := true, laidByText := true, laidKinds := [.data], laidTests := true, laidLooks := .later }
def FnExactBlockCardSaid : Prop := Claim7.holds Tryd.pinned (.plain (OpenSpec.ofChange fnExactBlockSpec)) fnExactBlockCard

/-- THE TIED CARD OF 'laws.FnExactStream'. -/
def fnExactStreamCard : Claim7 := { stood := { row := fnExactStreamRow, standIns := [], harness := (true, "40b8c5e39cecdbc3c9836bea370cc75df82fb92d38a3647af1c78eec080cbc78"), looks := false }, kinds := [], alts := [], goes := true, laidByText := true, laidKinds := [.data], laidTests := true, laidLooks := .later }
def FnExactStreamCardSaid : Prop := Claim7.holds Tryd.pinned (.plain (OpenSpec.ofChange fnExactStreamSpec)) fnExactStreamCard

/-- THE SECOND FORM's CARD OF 'laws.FnExactExtract'. -/
def fnExactExtractUptoCard : Claim7 := { stood := { row := fnExactExtractUptoRow, standIns := [], harness := (true, "40b8c5e39cecdbc3c9836bea370cc75df82fb92d38a3647af1c78eec080cbc78"), looks := false }, kinds := [], alts := [], goes := true, laidByText := true, laidKinds := [.data], laidTests := true, laidLooks := .later }
def FnExactExtractUptoCardSaid : Prop := Claim7.holds Tryd.pinned (.plain (OpenSpec.upto fnExactExtractSpec)) fnExactExtractUptoCard

/-- THE SECOND FORM's CARD OF 'laws.FnExactExpand'. -/
def fnExactExpandUptoCard : Claim7 := { stood := { row := fnExactExpandUptoRow, standIns := [], harness := (true, "40b8c5e39cecdbc3c9836bea370cc75df82fb92d38a3647af1c78eec080cbc78"), looks := false }, kinds := [], alts := [], goes := true, laidByText := true, laidKinds := [.data], laidTests := true, laidLooks := .later }
def FnExactExpandUptoCardSaid : Prop := Claim7.holds Tryd.pinned (.plain (OpenSpec.upto fnExactExpandSpec)) fnExactExpandUptoCard

/-- THE SECOND FORM's CARD OF 'laws.FnExactDerive'. -/
def fnExactDeriveUptoCard : Claim7 := { stood := { row := fnExactDeriveUptoRow, standIns := [], harness := (true, "40b8c5e39cecdbc3c9836bea370cc75df82fb92d38a3647af1c78eec080cbc78"), looks := false }, kinds := [], alts := [], goes := true, laidByText := true, laidKinds := [.data], laidTests := true, laidLooks := .later }
def FnExactDeriveUptoCardSaid : Prop := Claim7.holds Tryd.pinned (.plain (OpenSpec.upto fnExactDeriveSpec)) fnExactDeriveUptoCard

/-- THE SECOND FORM's CARD OF 'laws.FnExactBlock'. -/
def fnExactBlockUptoCard : Claim7 := { stood := { row := fnExactBlockUptoRow, standIns := [], harness := (true, "40b8c5e39cecdbc3c9836bea370cc75df82fb92d38a3647af1c78eec080cbc78"), looks := false }, kinds := [], alts := [], goes := true, laidByText := true, laidKinds := [.data], laidTests := true, laidLooks := .later }
def FnExactBlockUptoCardSaid : Prop := Claim7.holds Tryd.pinned (.plain (OpenSpec.upto fnExactBlockSpec)) fnExactBlockUptoCard

/-- THE SECOND FORM's CARD OF 'laws.FnExactStream'. -/
def fnExactStreamUptoCard : Claim7 := { stood := { row := fnExactStreamUptoRow, standIns := [], harness := (true, "40b8c5e39cecdbc3c9836bea370cc75df82fb92d38a3647af1c78eec080cbc78"), looks := false }, kinds := [], alts := [], goes := true, laidByText := true, laidKinds := [.data], laidTests := true, laidLooks := .later }
def FnExactStreamUptoCardSaid : Prop := Claim7.holds Tryd.pinned (.plain (OpenSpec.upto fnExactStreamSpec)) fnExactStreamUptoCard
end Rows
end Go.Proofs.YtcmbglelllcbdalDoor
