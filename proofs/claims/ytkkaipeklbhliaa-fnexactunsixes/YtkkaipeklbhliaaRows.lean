/-
  No cell of these rows narrows 'for every input' (looked for: loops, veiled, ifaces, maps, wideKeys, modest, calm, conditions, laid).
  DERIVED. THE GIVEN ROWS OF THIS SEAT. 4 by the template 'for every input the law returns true; each argument reads behind the call as it read before'; 0 by the template 'total and deterministic' (their statements: YtkkaipeklbhliaaTotals.lean).
  GIVEN WITH THE SEED: the statements are not yours to turn. If you find one false, say at which input.
  Laid BY PROGRAM, IN A SANDBOX (cutbox-rows.mjs): the forced cells as the released guide's own fill.sh prints them over the translation 83d4f13f56c288b6… (all of the seat's roots in one cut). By AI agents, Wed Nov 11 2026. No macro, syntax, notation, axiom, sorry.
-/
import Derived.Test.YtkkaipeklbhliaaChecked
import GoSem.Claim
import GoSem.ClaimJoined
import GoSem.ClaimMapViews
import Derived.JoinedTies
import Derived.KernelRfl
namespace Go.Proofs.Ytkkaipeklbhliaa
/- THE CELL 'sum', in the pinned program and in every row, IS THE sha256 OF THE DUMP (.gsa) THAT YtkkaipeklbhliaaProg.lean LOADS. Nothing in Lean hashes anything: it is a label: what it is worth is what the hold of that sum in a sandbox is worth. -/
noncomputable def Try.pinned : Pinned := { name := "ytkkaipeklbhliaa", sum := "83d4f13f56c288b6186e6a19360d7bd3d586318de17b83067c310f139321585d", checked := Try.checked }
namespace Rows
def none {H : Type} : Left H := { results := [], args := [] }

/-- 'laws.FnExactSixes': WHATEVER THE INPUT: true; the input reads as it did. -/
def fnExactSixesSpec : ChangeSpec := { name := "fnExactSixes", fn := fun _ => fun
  | [d] => { results := [.lit (.bool true)], args := [d] }
  | _ => none }
def fnExactSixesRow : OpenClaim := { program := "ytkkaipeklbhliaa", sum := "83d4f13f56c288b6186e6a19360d7bd3d586318de17b83067c310f139321585d", func := "loop.example/g00473/laws.FnExactSixes", spec := "fnExactSixes", unfollowed := true, recurses := true, apart := false }
def FnExactSixesSaid : Prop := fnExactSixesRow.holds Try.pinned (OpenSpec.ofChange fnExactSixesSpec)

/-- ITS FALSE NEIGHBOUR: 'it returns false'. Refute it at one input. -/
def fnExactSixesWrong : ChangeSpec := { name := "fnExactSixes", fn := fun _ => fun
  | [d] => { results := [.lit (.bool false)], args := [d] }
  | _ => none }
def FnExactSixesWrongFalsely : Prop := fnExactSixesRow.holds Try.pinned (OpenSpec.ofChange fnExactSixesWrong)

/-- 'laws.FnExactUnsixes': WHATEVER THE INPUT: true; the input reads as it did. -/
def fnExactUnsixesSpec : ChangeSpec := { name := "fnExactUnsixes", fn := fun _ => fun
  | [d] => { results := [.lit (.bool true)], args := [d] }
  | _ => none }
def fnExactUnsixesRow : OpenClaim := { program := "ytkkaipeklbhliaa", sum := "83d4f13f56c288b6186e6a19360d7bd3d586318de17b83067c310f139321585d", func := "loop.example/g00473/laws.FnExactUnsixes", spec := "fnExactUnsixes", inPlace := ["internal/bytealg.IndexByteString", "internal/bytealg.IndexString"], named := ["internal/bytealg.MaxLen"], apart := false }
def FnExactUnsixesSaid : Prop := fnExactUnsixesRow.holds Try.pinned (OpenSpec.ofChange fnExactUnsixesSpec)

/-- ITS FALSE NEIGHBOUR: 'it returns false'. Refute it at one input. -/
def fnExactUnsixesWrong : ChangeSpec := { name := "fnExactUnsixes", fn := fun _ => fun
  | [d] => { results := [.lit (.bool false)], args := [d] }
  | _ => none }
def FnExactUnsixesWrongFalsely : Prop := fnExactUnsixesRow.holds Try.pinned (OpenSpec.ofChange fnExactUnsixesWrong)

/-- 'laws.FnExactSixesLen': WHATEVER THE INPUT: true; the input reads as it did. -/
def fnExactSixesLenSpec : ChangeSpec := { name := "fnExactSixesLen", fn := fun _ => fun
  | [d] => { results := [.lit (.bool true)], args := [d] }
  | _ => none }
def fnExactSixesLenRow : OpenClaim := { program := "ytkkaipeklbhliaa", sum := "83d4f13f56c288b6186e6a19360d7bd3d586318de17b83067c310f139321585d", func := "loop.example/g00473/laws.FnExactSixesLen", spec := "fnExactSixesLen", apart := false }
def FnExactSixesLenSaid : Prop := fnExactSixesLenRow.holds Try.pinned (OpenSpec.ofChange fnExactSixesLenSpec)

/-- ITS FALSE NEIGHBOUR: 'it returns false'. Refute it at one input. -/
def fnExactSixesLenWrong : ChangeSpec := { name := "fnExactSixesLen", fn := fun _ => fun
  | [d] => { results := [.lit (.bool false)], args := [d] }
  | _ => none }
def FnExactSixesLenWrongFalsely : Prop := fnExactSixesLenRow.holds Try.pinned (OpenSpec.ofChange fnExactSixesLenWrong)

/-- 'laws.FnSixes': WHATEVER THE INPUT: true; the input reads as it did. -/
def fnSixesSpec : ChangeSpec := { name := "fnSixes", fn := fun _ => fun
  | [d] => { results := [.lit (.bool true)], args := [d] }
  | _ => none }
def fnSixesRow : OpenClaim := { program := "ytkkaipeklbhliaa", sum := "83d4f13f56c288b6186e6a19360d7bd3d586318de17b83067c310f139321585d", func := "loop.example/g00473/laws.FnSixes", spec := "fnSixes", inPlace := ["internal/bytealg.IndexByteString", "internal/bytealg.IndexString"], unfollowed := true, recurses := true, named := ["internal/bytealg.MaxLen"], apart := false }
def FnSixesSaid : Prop := fnSixesRow.holds Try.pinned (OpenSpec.ofChange fnSixesSpec)

/-- ITS FALSE NEIGHBOUR: 'it returns false'. Refute it at one input. -/
def fnSixesWrong : ChangeSpec := { name := "fnSixes", fn := fun _ => fun
  | [d] => { results := [.lit (.bool false)], args := [d] }
  | _ => none }
def FnSixesWrongFalsely : Prop := fnSixesRow.holds Try.pinned (OpenSpec.ofChange fnSixesWrong)

/- THE SECOND FORM. 'bulk': how many values and letters a reading holds, each counted each time it is reached (what is shared counts as often as it is met; a slice's spare places count too). A statement '..UptoSaid' is the law's where the arguments, and the package variables that the reading takes, are together of bulk at most 1048576: NARROWER than '..Said'. Prove '..Said' where nothing that the law and all that it calls make is longer than what came in: it says more and counts as full. Else prove '..UptoSaid'. A law counts once. -/
mutual
def uptoBulk {H : Type} : DataW H → Nat
  | .lit (.string bytes) => bytes.length + 1
  | .lit _ => 1
  | .nil => 1
  | .ptr d => uptoBulk d + 1
  | .slice elems spare => uptoBulkAll elems + uptoBulkAll spare + 1
  | .agg parts => uptoBulkAll parts + 1
  | .iface _ d => uptoBulk d + 1
  | .map entries => uptoBulkEntries entries + 1
  | .held _ => 1
def uptoBulkAll {H : Type} : List (DataW H) → Nat
  | [] => 0
  | d :: r => uptoBulk d + uptoBulkAll r
def uptoBulkEntries {H : Type} : List (Lit × DataW H) → Nat
  | [] => 0
  | x :: r => uptoBulkEntry x + uptoBulkEntries r
def uptoBulkEntry {H : Type} : Lit × DataW H → Nat
  | (.string bytes, d) => bytes.length + uptoBulk d + 1
  | (_, d) => uptoBulk d + 1
 end
def uptoSmall : (H : Type) → List (DataW H) → Bool := fun _ ds => decide (uptoBulkAll ds ≤ 1048576)
def OpenSpec.upto (s : _root_.Go.ChangeSpec) : _root_.Go.OpenSpec := { _root_.Go.OpenSpec.ofChange s with cond := some uptoSmall }

/-- 'laws.FnExactSixes', WHERE WHAT IT READS IS OF BULK AT MOST 1048576: true; the input reads as it did. -/
def fnExactSixesUptoRow : OpenClaim := { program := "ytkkaipeklbhliaa", sum := "83d4f13f56c288b6186e6a19360d7bd3d586318de17b83067c310f139321585d", func := "loop.example/g00473/laws.FnExactSixes", spec := "fnExactSixes", unfollowed := true, recurses := true, apart := false, narrowed := true }
def FnExactSixesUptoSaid : Prop := fnExactSixesUptoRow.holds Try.pinned (OpenSpec.upto fnExactSixesSpec)

/-- 'laws.FnExactUnsixes', WHERE WHAT IT READS IS OF BULK AT MOST 1048576: true; the input reads as it did. -/
def fnExactUnsixesUptoRow : OpenClaim := { program := "ytkkaipeklbhliaa", sum := "83d4f13f56c288b6186e6a19360d7bd3d586318de17b83067c310f139321585d", func := "loop.example/g00473/laws.FnExactUnsixes", spec := "fnExactUnsixes", inPlace := ["internal/bytealg.IndexByteString", "internal/bytealg.IndexString"], named := ["internal/bytealg.MaxLen"], apart := false, narrowed := true }
def FnExactUnsixesUptoSaid : Prop := fnExactUnsixesUptoRow.holds Try.pinned (OpenSpec.upto fnExactUnsixesSpec)

/-- 'laws.FnExactSixesLen', WHERE WHAT IT READS IS OF BULK AT MOST 1048576: true; the input reads as it did. -/
def fnExactSixesLenUptoRow : OpenClaim := { program := "ytkkaipeklbhliaa", sum := "83d4f13f56c288b6186e6a19360d7bd3d586318de17b83067c310f139321585d", func := "loop.example/g00473/laws.FnExactSixesLen", spec := "fnExactSixesLen", apart := false, narrowed := true }
def FnExactSixesLenUptoSaid : Prop := fnExactSixesLenUptoRow.holds Try.pinned (OpenSpec.upto fnExactSixesLenSpec)

/-- 'laws.FnSixes', WHERE WHAT IT READS IS OF BULK AT MOST 1048576: true; the input reads as it did. -/
def fnSixesUptoRow : OpenClaim := { program := "ytkkaipeklbhliaa", sum := "83d4f13f56c288b6186e6a19360d7bd3d586318de17b83067c310f139321585d", func := "loop.example/g00473/laws.FnSixes", spec := "fnSixes", inPlace := ["internal/bytealg.IndexByteString", "internal/bytealg.IndexString"], unfollowed := true, recurses := true, named := ["internal/bytealg.MaxLen"], apart := false, narrowed := true }
def FnSixesUptoSaid : Prop := fnSixesUptoRow.holds Try.pinned (OpenSpec.upto fnSixesSpec)

end Rows
end Go.Proofs.Ytkkaipeklbhliaa
