/-
  DERIVED. GIVEN WITH THE SEED: THE CARDS: each row of YtncaihcfadllbakDoorRows.lean that lists a variable, with what it lists TIED to the program's text (the seventh form; the later family's looks); each row that meets fmt, with fmt's text TOLD by the authors' own Lean function (tested against real Go, not proved from fmt's source: count such statements apart). THE CARD IS WHAT COUNTS. Prove the row's statement (the work); the ties are given (YtncaihcfadllbakDoorTie.lean); close each card by the builder's one call (the guide's Derived/Test/ToyasCard.lean, 'card_holds'). Laid BY PROGRAM, IN A SANDBOX (cutbox-door.mjs). By AI agents, Wed Nov 11 2026. No macro, syntax, notation, axiom, sorry.
-/
import Derived.Test.YtncaihcfadllbakDoorRows
import GoSem.ClaimSeven
namespace Go.Proofs.YtncaihcfadllbakDoor
namespace Rows

/-- THE TIED CARD OF 'laws.FnExactHashBlock'. -/
def fnExactHashBlockCard : Claim7 := { stood := { row := fnExactHashBlockRow, standIns := [], harness := (true, "044a42d215fdfc49715e0dcd192337b5e3dd1fb1f20e84f6ae594619f5e6c577"), looks := false }, kinds := [], alts := [], laidByText := true, laidKinds := [.data], laidTests := true, laidLooks := .later }
def FnExactHashBlockCardSaid : Prop := Claim7.holds Tryd.pinned (.plain (OpenSpec.ofChange fnExactHashBlockSpec)) fnExactHashBlockCard

/-- THE TIED CARD OF 'laws.FnExactHash'. -/
def fnExactHashCard : Claim7 := { stood := { row := fnExactHashRow, standIns := [], harness := (true, "044a42d215fdfc49715e0dcd192337b5e3dd1fb1f20e84f6ae594619f5e6c577"), looks := false }, kinds := [], alts := [], laidByText := true, laidKinds := [.data], laidTests := true, laidLooks := .later }
def FnExactHashCardSaid : Prop := Claim7.holds Tryd.pinned (.plain (OpenSpec.ofChange fnExactHashSpec)) fnExactHashCard

/-- THE TIED CARD OF 'laws.FnExactMac'. -/
def fnExactMacCard : Claim7 := { stood := { row := fnExactMacRow, standIns := [], harness := (true, "044a42d215fdfc49715e0dcd192337b5e3dd1fb1f20e84f6ae594619f5e6c577"), looks := false }, kinds := [], alts := [], laidByText := true, laidKinds := [.data], laidTests := true, laidLooks := .later }
def FnExactMacCardSaid : Prop := Claim7.holds Tryd.pinned (.plain (OpenSpec.ofChange fnExactMacSpec)) fnExactMacCard

/-- THE SECOND FORM's CARD OF 'laws.FnExactHashBlock'. -/
def fnExactHashBlockUptoCard : Claim7 := { stood := { row := fnExactHashBlockUptoRow, standIns := [], harness := (true, "044a42d215fdfc49715e0dcd192337b5e3dd1fb1f20e84f6ae594619f5e6c577"), looks := false }, kinds := [], alts := [], laidByText := true, laidKinds := [.data], laidTests := true, laidLooks := .later }
def FnExactHashBlockUptoCardSaid : Prop := Claim7.holds Tryd.pinned (.plain (OpenSpec.upto fnExactHashBlockSpec)) fnExactHashBlockUptoCard

/-- THE SECOND FORM's CARD OF 'laws.FnExactHash'. -/
def fnExactHashUptoCard : Claim7 := { stood := { row := fnExactHashUptoRow, standIns := [], harness := (true, "044a42d215fdfc49715e0dcd192337b5e3dd1fb1f20e84f6ae594619f5e6c577"), looks := false }, kinds := [], alts := [], laidByText := true, laidKinds := [.data], laidTests := true, laidLooks := .later }
def FnExactHashUptoCardSaid : Prop := Claim7.holds Tryd.pinned (.plain (OpenSpec.upto fnExactHashSpec)) fnExactHashUptoCard

/-- THE SECOND FORM's CARD OF 'laws.FnExactMac'. -/
def fnExactMacUptoCard : Claim7 := { stood := { row := fnExactMacUptoRow, standIns := [], harness := (true, "044a42d215fdfc49715e0dcd192337b5e3dd1fb1f20e84f6ae594619f5e6c577"), looks := false }, kinds := [], alts := [], laidByText := true, laidKinds := [.data], laidTests := true, laidLooks := .later }
def FnExactMacUptoCardSaid : Prop := Claim7.holds Tryd.pinned (.plain (OpenSpec.upto fnExactMacSpec)) fnExactMacUptoCard
end Rows
end Go.Proofs.YtncaihcfadllbakDoor
