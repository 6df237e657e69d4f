/-
  NARROWER THAN 'FOR EVERY INPUT', by the rows' own cells (each row's printed sentence says how): FnStreams: laid · FnBlocks: laid · FnExactStream: laid.
  DERIVED. THE GIVEN ROWS OF THIS SEAT. 3 by the template 'for every input the law returns true; each argument reads behind the call as it read before'; 0 by the template 'total and deterministic' (their statements: YtepbidaoloplbaaDoorTotals.lean).
  GIVEN WITH THE SEED: the statements are not yours to turn. If you find one false, say at which input.
  Laid BY PROGRAM, IN A SANDBOX (cutbox-rows.mjs): the forced cells as the released guide's own fill.sh prints them over the translation e0ac6bf1e7a8e08a… (all of the seat's roots in one cut). By AI agents, Wed Nov 11 2026. No macro, syntax, notation, axiom, sorry.
-/
import Derived.Test.YtepbidaoloplbaaDoorChecked
import GoSem.Claim
import GoSem.ClaimJoined
import GoSem.ClaimMapViews
import Derived.JoinedTies
import Derived.KernelRfl
namespace Go.Proofs.YtepbidaoloplbaaDoor
/- THE CELL 'sum', in the pinned program and in every row, IS THE sha256 OF THE DUMP (.gsa) THAT YtepbidaoloplbaaDoorProg.lean LOADS. Nothing in Lean hashes anything: it is a label: what it is worth is what the hold of that sum in a sandbox is worth. -/
noncomputable def Tryd.pinned : Pinned := { name := "ytepbidaoloplbaadoor", sum := "e0ac6bf1e7a8e08ab42135ccdd41f9c73098fbab66d3df506daede748b630079", checked := Tryd.checked }
namespace Rows
def none {H : Type} : Left H := { results := [], args := [] }

/- WHAT THE LISTED PACKAGE-LEVEL VARIABLES READ AS WHEN THE CALL BEGINS. Each datum BY PROGRAM (the guide's laid-datum.mjs) off the statement by which the dump's own 'gosem.cut.vars' lays the variable. In a bare row this is a premise. The card (YtepbidaoloplbaaDoorCards.lean) ties it to the program's text. -/
def laid_loop_example_g00473_impl_quarterPlaces {H : Type} : DataW H := .agg [.agg [.lit (.int .i64 0), .lit (.int .i64 4), .lit (.int .i64 8), .lit (.int .i64 12)], .agg [.lit (.int .i64 1), .lit (.int .i64 5), .lit (.int .i64 9), .lit (.int .i64 13)], .agg [.lit (.int .i64 2), .lit (.int .i64 6), .lit (.int .i64 10), .lit (.int .i64 14)], .agg [.lit (.int .i64 3), .lit (.int .i64 7), .lit (.int .i64 11), .lit (.int .i64 15)], .agg [.lit (.int .i64 0), .lit (.int .i64 5), .lit (.int .i64 10), .lit (.int .i64 15)], .agg [.lit (.int .i64 1), .lit (.int .i64 6), .lit (.int .i64 11), .lit (.int .i64 12)], .agg [.lit (.int .i64 2), .lit (.int .i64 7), .lit (.int .i64 8), .lit (.int .i64 13)], .agg [.lit (.int .i64 3), .lit (.int .i64 4), .lit (.int .i64 9), .lit (.int .i64 14)]]

/-- 'laws.FnStreams': WHATEVER THE INPUT: true; the input reads as it did. -/
def fnStreamsSpec : ChangeSpec := { name := "fnStreams", vars := ["loop.example/g00473/impl.quarterPlaces"], fn := fun _ => fun
  | [d, g1] => { results := [.lit (.bool true)], args := [d], vars := [g1] }
  | _ => none }
def fnStreamsRow : OpenClaim := { program := "ytepbidaoloplbaadoor", sum := "e0ac6bf1e7a8e08ab42135ccdd41f9c73098fbab66d3df506daede748b630079", func := "loop.example/g00473/laws.FnStreams", spec := "fnStreams", unfollowed := true, recurses := true, named := ["loop.example/g00473/impl.quarterPlaces"], leaving := true, apart := false, laid := [("loop.example/g00473/impl.quarterPlaces", laid_loop_example_g00473_impl_quarterPlaces)] }
def FnStreamsSaid : Prop := fnStreamsRow.holds Tryd.pinned (OpenSpec.ofChange fnStreamsSpec)

/-- ITS FALSE NEIGHBOUR: 'it returns false'. Refute it at one input. -/
def fnStreamsWrong : ChangeSpec := { name := "fnStreams", vars := ["loop.example/g00473/impl.quarterPlaces"], fn := fun _ => fun
  | [d, g1] => { results := [.lit (.bool false)], args := [d], vars := [g1] }
  | _ => none }
def FnStreamsWrongFalsely : Prop := fnStreamsRow.holds Tryd.pinned (OpenSpec.ofChange fnStreamsWrong)

/-- 'laws.FnBlocks': WHATEVER THE INPUT: true; the input reads as it did. -/
def fnBlocksSpec : ChangeSpec := { name := "fnBlocks", vars := ["loop.example/g00473/impl.quarterPlaces"], fn := fun _ => fun
  | [d, g1] => { results := [.lit (.bool true)], args := [d], vars := [g1] }
  | _ => none }
def fnBlocksRow : OpenClaim := { program := "ytepbidaoloplbaadoor", sum := "e0ac6bf1e7a8e08ab42135ccdd41f9c73098fbab66d3df506daede748b630079", func := "loop.example/g00473/laws.FnBlocks", spec := "fnBlocks", unfollowed := true, recurses := true, named := ["loop.example/g00473/impl.quarterPlaces"], leaving := true, apart := false, laid := [("loop.example/g00473/impl.quarterPlaces", laid_loop_example_g00473_impl_quarterPlaces)] }
def FnBlocksSaid : Prop := fnBlocksRow.holds Tryd.pinned (OpenSpec.ofChange fnBlocksSpec)

/-- ITS FALSE NEIGHBOUR: 'it returns false'. Refute it at one input. -/
def fnBlocksWrong : ChangeSpec := { name := "fnBlocks", vars := ["loop.example/g00473/impl.quarterPlaces"], fn := fun _ => fun
  | [d, g1] => { results := [.lit (.bool false)], args := [d], vars := [g1] }
  | _ => none }
def FnBlocksWrongFalsely : Prop := fnBlocksRow.holds Tryd.pinned (OpenSpec.ofChange fnBlocksWrong)

/-- 'laws.FnExactStream': WHATEVER THE INPUT: true; the input reads as it did. -/
def fnExactStreamSpec : ChangeSpec := { name := "fnExactStream", vars := ["loop.example/g00473/impl.quarterPlaces"], fn := fun _ => fun
  | [d1, d2, d3, d4, g1] => { results := [.lit (.bool true)], args := [d1, d2, d3, d4], vars := [g1] }
  | _ => none }
def fnExactStreamRow : OpenClaim := { program := "ytepbidaoloplbaadoor", sum := "e0ac6bf1e7a8e08ab42135ccdd41f9c73098fbab66d3df506daede748b630079", func := "loop.example/g00473/laws.FnExactStream", spec := "fnExactStream", unfollowed := true, recurses := true, named := ["loop.example/g00473/impl.quarterPlaces"], leaving := true, apart := false, laid := [("loop.example/g00473/impl.quarterPlaces", laid_loop_example_g00473_impl_quarterPlaces)] }
def FnExactStreamSaid : Prop := fnExactStreamRow.holds Tryd.pinned (OpenSpec.ofChange fnExactStreamSpec)

/-- ITS FALSE NEIGHBOUR: 'it returns false'. Refute it at one input. -/
def fnExactStreamWrong : ChangeSpec := { name := "fnExactStream", vars := ["loop.example/g00473/impl.quarterPlaces"], fn := fun _ => fun
  | [d1, d2, d3, d4, g1] => { results := [.lit (.bool false)], args := [d1, d2, d3, d4], vars := [g1] }
  | _ => none }
def FnExactStreamWrongFalsely : Prop := fnExactStreamRow.holds Tryd.pinned (OpenSpec.ofChange fnExactStreamWrong)

/- THE SECOND FORM. 'bulk': how many values and letters a reading holds, each counted each time it is reached (what is shared counts as often as it is met; a slice's spare places count too). A statement '..UptoSaid' is the law's where the arguments, and the package variables that the reading takes, are together of bulk at most 1048576: NARROWER than '..Said'. Prove '..Said' where nothing that the law and all that it calls make is longer than what came in: it says more and counts as full. Else prove '..UptoSaid'. A law counts once. -/
mutual
def uptoBulk {H : Type} : DataW H → Nat
  | .lit (.string bytes) => bytes.length + 1
  | .lit _ => 1
  | .nil => 1
  | .ptr d => uptoBulk d + 1
  | .slice elems spare => uptoBulkAll elems + uptoBulkAll spare + 1
  | .agg parts => uptoBulkAll parts + 1
  | .iface _ d => uptoBulk d + 1
  | .map entries => uptoBulkEntries entries + 1
  | .held _ => 1
def uptoBulkAll {H : Type} : List (DataW H) → Nat
  | [] => 0
  | d :: r => uptoBulk d + uptoBulkAll r
def uptoBulkEntries {H : Type} : List (Lit × DataW H) → Nat
  | [] => 0
  | x :: r => uptoBulkEntry x + uptoBulkEntries r
def uptoBulkEntry {H : Type} : Lit × DataW H → Nat
  | (.string bytes, d) => bytes.length + uptoBulk d + 1
  | (_, d) => uptoBulk d + 1
 end
def uptoSmall : (H : Type) → List (DataW H) → Bool := fun _ ds => decide (uptoBulkAll ds ≤ 1048576)
def OpenSpec.upto (s : _root_.Go.ChangeSpec) : _root_.Go.OpenSpec := { _root_.Go.OpenSpec.ofChange s with cond := some uptoSmall }

/-- 'laws.FnStreams', WHERE WHAT IT READS IS OF BULK AT MOST 1048576: true; the input reads as it did. -/
def fnStreamsUptoRow : OpenClaim := { program := "ytepbidaoloplbaadoor", sum := "e0ac6bf1e7a8e08ab42135ccdd41f9c73098fbab66d3df506daede748b630079", func := "loop.example/g00473/laws.FnStreams", spec := "fnStreams", unfollowed := true, recurses := true, named := ["loop.example/g00473/impl.quarterPlaces"], leaving := true, apart := false, laid := [("loop.example/g00473/impl.quarterPlaces", laid_loop_example_g00473_impl_quarterPlaces)], narrowed := true }
def FnStreamsUptoSaid : Prop := fnStreamsUptoRow.holds Tryd.pinned (OpenSpec.upto fnStreamsSpec)

/-- 'laws.FnBlocks', WHERE WHAT IT READS IS OF BULK AT MOST 1048576: true; the input reads as it did. -/
def fnBlocksUptoRow : OpenClaim := { program := "ytepbidaoloplbaadoor", sum := "e0ac6bf1e7a8e08ab42135ccdd41f9c73098fbab66d3df506daede748b630079", func := "loop.example/g00473/laws.FnBlocks", spec := "fnBlocks", unfollowed := true, recurses := true, named := ["loop.example/g00473/impl.quarterPlaces"], leaving := true, apart := false, laid := [("loop.example/g00473/impl.quarterPlaces", laid_loop_example_g00473_impl_quarterPlaces)], narrowed := true }
def FnBlocksUptoSaid : Prop := fnBlocksUptoRow.holds Tryd.pinned (OpenSpec.upto fnBlocksSpec)

/-- 'laws.FnExactStream', WHERE WHAT IT READS IS OF BULK AT MOST 1048576: true; the input reads as it did. -/
def fnExactStreamUptoRow : OpenClaim := { program := "ytepbidaoloplbaadoor", sum := "e0ac6bf1e7a8e08ab42135ccdd41f9c73098fbab66d3df506daede748b630079", func := "loop.example/g00473/laws.FnExactStream", spec := "fnExactStream", unfollowed := true, recurses := true, named := ["loop.example/g00473/impl.quarterPlaces"], leaving := true, apart := false, laid := [("loop.example/g00473/impl.quarterPlaces", laid_loop_example_g00473_impl_quarterPlaces)], narrowed := true }
def FnExactStreamUptoSaid : Prop := fnExactStreamUptoRow.holds Tryd.pinned (OpenSpec.upto fnExactStreamSpec)

end Rows
end Go.Proofs.YtepbidaoloplbaaDoor
