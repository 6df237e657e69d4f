/-
  No cell of these rows narrows 'for every input' (looked for: loops, veiled, ifaces, maps, wideKeys, modest, calm, conditions, laid).
  DERIVED. THE GIVEN ROWS OF THIS SEAT. 4 by the template 'for every input the law returns true; each argument reads behind the call as it read before'; 0 by the template 'total and deterministic' (their statements: YtoolfgbghhbjmamTotals.lean).
  GIVEN WITH THE SEED: the statements are not yours to turn. If you find one false, say at which input.
  Laid BY PROGRAM, IN A SANDBOX (cutbox-rows.mjs): the forced cells as the released guide's own fill.sh prints them over the translation d06f950f3945e647… (all of the seat's roots in one cut). By AI agents, Wed Nov 11 2026. No macro, syntax, notation, axiom, sorry.
-/
import Derived.Test.YtoolfgbghhbjmamChecked
import GoSem.Claim
import GoSem.ClaimJoined
import GoSem.ClaimMapViews
import Derived.JoinedTies
import Derived.KernelRfl
namespace Go.Proofs.Ytoolfgbghhbjmam
/- THE CELL 'sum', in the pinned program and in every row, IS THE sha256 OF THE DUMP (.gsa) THAT YtoolfgbghhbjmamProg.lean LOADS. Nothing in Lean hashes anything: it is a label: what it is worth is what the hold of that sum in a sandbox is worth. -/
noncomputable def Try.pinned : Pinned := { name := "ytoolfgbghhbjmam", sum := "d06f950f3945e6478cb8f854efa414fc642fd4dd22756bbe5839d6c68b218a78", checked := Try.checked }
namespace Rows
def none {H : Type} : Left H := { results := [], args := [] }

/-- 'laws.FnExactTag': WHATEVER THE INPUT: true; the input reads as it did. -/
def fnExactTagSpec : ChangeSpec := { name := "fnExactTag", fn := fun _ => fun
  | [d1, d2] => { results := [.lit (.bool true)], args := [d1, d2] }
  | _ => none }
def fnExactTagRow : OpenClaim := { program := "ytoolfgbghhbjmam", sum := "d06f950f3945e6478cb8f854efa414fc642fd4dd22756bbe5839d6c68b218a78", func := "loop.example/g00473/laws.FnExactTag", spec := "fnExactTag", apart := false }
def FnExactTagSaid : Prop := fnExactTagRow.holds Try.pinned (OpenSpec.ofChange fnExactTagSpec)

/-- ITS FALSE NEIGHBOUR: 'it returns false'. Refute it at one input. -/
def fnExactTagWrong : ChangeSpec := { name := "fnExactTag", fn := fun _ => fun
  | [d1, d2] => { results := [.lit (.bool false)], args := [d1, d2] }
  | _ => none }
def FnExactTagWrongFalsely : Prop := fnExactTagRow.holds Try.pinned (OpenSpec.ofChange fnExactTagWrong)

/-- 'laws.FnExactTagText': WHATEVER THE INPUT: true; the input reads as it did. -/
def fnExactTagTextSpec : ChangeSpec := { name := "fnExactTagText", fn := fun _ => fun
  | [d1, d2] => { results := [.lit (.bool true)], args := [d1, d2] }
  | _ => none }
def fnExactTagTextRow : OpenClaim := { program := "ytoolfgbghhbjmam", sum := "d06f950f3945e6478cb8f854efa414fc642fd4dd22756bbe5839d6c68b218a78", func := "loop.example/g00473/laws.FnExactTagText", spec := "fnExactTagText", apart := false }
def FnExactTagTextSaid : Prop := fnExactTagTextRow.holds Try.pinned (OpenSpec.ofChange fnExactTagTextSpec)

/-- ITS FALSE NEIGHBOUR: 'it returns false'. Refute it at one input. -/
def fnExactTagTextWrong : ChangeSpec := { name := "fnExactTagText", fn := fun _ => fun
  | [d1, d2] => { results := [.lit (.bool false)], args := [d1, d2] }
  | _ => none }
def FnExactTagTextWrongFalsely : Prop := fnExactTagTextRow.holds Try.pinned (OpenSpec.ofChange fnExactTagTextWrong)

/-- 'laws.FnExactFieldAdd': WHATEVER THE INPUT: true; the input reads as it did. -/
def fnExactFieldAddSpec : ChangeSpec := { name := "fnExactFieldAdd", fn := fun _ => fun
  | [d1, d2] => { results := [.lit (.bool true)], args := [d1, d2] }
  | _ => none }
def fnExactFieldAddRow : OpenClaim := { program := "ytoolfgbghhbjmam", sum := "d06f950f3945e6478cb8f854efa414fc642fd4dd22756bbe5839d6c68b218a78", func := "loop.example/g00473/laws.FnExactFieldAdd", spec := "fnExactFieldAdd", inPlace := ["math/bits.Add64"], unfollowed := true, recurses := true, apart := false }
def FnExactFieldAddSaid : Prop := fnExactFieldAddRow.holds Try.pinned (OpenSpec.ofChange fnExactFieldAddSpec)

/-- ITS FALSE NEIGHBOUR: 'it returns false'. Refute it at one input. -/
def fnExactFieldAddWrong : ChangeSpec := { name := "fnExactFieldAdd", fn := fun _ => fun
  | [d1, d2] => { results := [.lit (.bool false)], args := [d1, d2] }
  | _ => none }
def FnExactFieldAddWrongFalsely : Prop := fnExactFieldAddRow.holds Try.pinned (OpenSpec.ofChange fnExactFieldAddWrong)

/-- 'laws.FnExactFieldSub': WHATEVER THE INPUT: true; the input reads as it did. -/
def fnExactFieldSubSpec : ChangeSpec := { name := "fnExactFieldSub", fn := fun _ => fun
  | [d1, d2] => { results := [.lit (.bool true)], args := [d1, d2] }
  | _ => none }
def fnExactFieldSubRow : OpenClaim := { program := "ytoolfgbghhbjmam", sum := "d06f950f3945e6478cb8f854efa414fc642fd4dd22756bbe5839d6c68b218a78", func := "loop.example/g00473/laws.FnExactFieldSub", spec := "fnExactFieldSub", inPlace := ["math/bits.Add64"], unfollowed := true, recurses := true, apart := false }
def FnExactFieldSubSaid : Prop := fnExactFieldSubRow.holds Try.pinned (OpenSpec.ofChange fnExactFieldSubSpec)

/-- ITS FALSE NEIGHBOUR: 'it returns false'. Refute it at one input. -/
def fnExactFieldSubWrong : ChangeSpec := { name := "fnExactFieldSub", fn := fun _ => fun
  | [d1, d2] => { results := [.lit (.bool false)], args := [d1, d2] }
  | _ => none }
def FnExactFieldSubWrongFalsely : Prop := fnExactFieldSubRow.holds Try.pinned (OpenSpec.ofChange fnExactFieldSubWrong)

/- THE SECOND FORM. 'bulk': how many values and letters a reading holds, each counted each time it is reached (what is shared counts as often as it is met; a slice's spare places count too). A statement '..UptoSaid' is the law's where the arguments, and the package variables that the reading takes, are together of bulk at most 1048576: NARROWER than '..Said'. Prove '..Said' where nothing that the law and all that it calls make is longer than what came in: it says more and counts as full. Else prove '..UptoSaid'. A law counts once. -/
mutual
def uptoBulk {H : Type} : DataW H → Nat
  | .lit (.string bytes) => bytes.length + 1
  | .lit _ => 1
  | .nil => 1
  | .ptr d => uptoBulk d + 1
  | .slice elems spare => uptoBulkAll elems + uptoBulkAll spare + 1
  | .agg parts => uptoBulkAll parts + 1
  | .iface _ d => uptoBulk d + 1
  | .map entries => uptoBulkEntries entries + 1
  | .held _ => 1
def uptoBulkAll {H : Type} : List (DataW H) → Nat
  | [] => 0
  | d :: r => uptoBulk d + uptoBulkAll r
def uptoBulkEntries {H : Type} : List (Lit × DataW H) → Nat
  | [] => 0
  | x :: r => uptoBulkEntry x + uptoBulkEntries r
def uptoBulkEntry {H : Type} : Lit × DataW H → Nat
  | (.string bytes, d) => bytes.length + uptoBulk d + 1
  | (_, d) => uptoBulk d + 1
 end
def uptoSmall : (H : Type) → List (DataW H) → Bool := fun _ ds => decide (uptoBulkAll ds ≤ 1048576)
def OpenSpec.upto (s : _root_.Go.ChangeSpec) : _root_.Go.OpenSpec := { _root_.Go.OpenSpec.ofChange s with cond := some uptoSmall }

/-- 'laws.FnExactTag', WHERE WHAT IT READS IS OF BULK AT MOST 1048576: true; the input reads as it did. -/
def fnExactTagUptoRow : OpenClaim := { program := "ytoolfgbghhbjmam", sum := "d06f950f3945e6478cb8f854efa414fc642fd4dd22756bbe5839d6c68b218a78", func := "loop.example/g00473/laws.FnExactTag", spec := "fnExactTag", apart := false, narrowed := true }
def FnExactTagUptoSaid : Prop := fnExactTagUptoRow.holds Try.pinned (OpenSpec.upto fnExactTagSpec)

/-- 'laws.FnExactTagText', WHERE WHAT IT READS IS OF BULK AT MOST 1048576: true; the input reads as it did. -/
def fnExactTagTextUptoRow : OpenClaim := { program := "ytoolfgbghhbjmam", sum := "d06f950f3945e6478cb8f854efa414fc642fd4dd22756bbe5839d6c68b218a78", func := "loop.example/g00473/laws.FnExactTagText", spec := "fnExactTagText", apart := false, narrowed := true }
def FnExactTagTextUptoSaid : Prop := fnExactTagTextUptoRow.holds Try.pinned (OpenSpec.upto fnExactTagTextSpec)

/-- 'laws.FnExactFieldAdd', WHERE WHAT IT READS IS OF BULK AT MOST 1048576: true; the input reads as it did. -/
def fnExactFieldAddUptoRow : OpenClaim := { program := "ytoolfgbghhbjmam", sum := "d06f950f3945e6478cb8f854efa414fc642fd4dd22756bbe5839d6c68b218a78", func := "loop.example/g00473/laws.FnExactFieldAdd", spec := "fnExactFieldAdd", inPlace := ["math/bits.Add64"], unfollowed := true, recurses := true, apart := false, narrowed := true }
def FnExactFieldAddUptoSaid : Prop := fnExactFieldAddUptoRow.holds Try.pinned (OpenSpec.upto fnExactFieldAddSpec)

/-- 'laws.FnExactFieldSub', WHERE WHAT IT READS IS OF BULK AT MOST 1048576: true; the input reads as it did. -/
def fnExactFieldSubUptoRow : OpenClaim := { program := "ytoolfgbghhbjmam", sum := "d06f950f3945e6478cb8f854efa414fc642fd4dd22756bbe5839d6c68b218a78", func := "loop.example/g00473/laws.FnExactFieldSub", spec := "fnExactFieldSub", inPlace := ["math/bits.Add64"], unfollowed := true, recurses := true, apart := false, narrowed := true }
def FnExactFieldSubUptoSaid : Prop := fnExactFieldSubUptoRow.holds Try.pinned (OpenSpec.upto fnExactFieldSubSpec)

end Rows
end Go.Proofs.Ytoolfgbghhbjmam
