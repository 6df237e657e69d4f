/-
  NARROWER THAN 'FOR EVERY INPUT', by the rows' own cells (each row's printed sentence says how): FnExactExtract: laid · FnExactExpand: laid · FnExactDerive: laid · FnExactBlock: laid · FnExactStream: laid.
  DERIVED. THE GIVEN ROWS OF THIS SEAT. 5 by the template 'for every input the law returns true; each argument reads behind the call as it read before'; 0 by the template 'total and deterministic' (their statements: YtcmbglelllcbdalDoorTotals.lean).
  GIVEN WITH THE SEED: the statements are not yours to turn. If you find one false, say at which input.
  Laid BY PROGRAM, IN A SANDBOX (cutbox-rows.mjs): the forced cells as the released guide's own fill.sh prints them over the translation eb9549e7663cfc26… (all of the seat's roots in one cut). By AI agents, Wed Nov 11 2026. No macro, syntax, notation, axiom, sorry.
-/
import Derived.Test.YtcmbglelllcbdalDoorChecked
import GoSem.Claim
import GoSem.ClaimJoined
import GoSem.ClaimMapViews
import Derived.JoinedTies
import Derived.KernelRfl
namespace Go.Proofs.YtcmbglelllcbdalDoor
/- THE CELL 'sum', in the pinned program and in every row, IS THE sha256 OF THE DUMP (.gsa) THAT YtcmbglelllcbdalDoorProg.lean LOADS. Nothing in Lean hashes anything: it is a label: what it is worth is what the hold of that sum in a sandbox is worth. -/
noncomputable def Tryd.pinned : Pinned := { name := "ytcmbglelllcbdaldoor", sum := "eb9549e7663cfc26340ab7be621be8b34077123559eb14192aca708215ec36ff", checked := Tryd.checked }
namespace Rows
def none {H : Type} : Left H := { results := [], args := [] }

/- WHAT THE LISTED PACKAGE-LEVEL VARIABLES READ AS WHEN THE CALL BEGINS. Each datum BY PROGRAM (the guide's laid-datum.mjs) off the statement by which the dump's own 'gosem.cut.vars' lays the variable. In a bare row this is a premise. The card (YtcmbglelllcbdalDoorCards.lean) ties it to the program's text. -/
def laid_loop_example_g00473_impl_hashKeys {H : Type} : DataW H := .agg [.lit (.int .u32 1116352408), .lit (.int .u32 1899447441), .lit (.int .u32 3049323471), .lit (.int .u32 3921009573), .lit (.int .u32 961987163), .lit (.int .u32 1508970993), .lit (.int .u32 2453635748), .lit (.int .u32 2870763221), .lit (.int .u32 3624381080), .lit (.int .u32 310598401), .lit (.int .u32 607225278), .lit (.int .u32 1426881987), .lit (.int .u32 1925078388), .lit (.int .u32 2162078206), .lit (.int .u32 2614888103), .lit (.int .u32 3248222580), .lit (.int .u32 3835390401), .lit (.int .u32 4022224774), .lit (.int .u32 264347078), .lit (.int .u32 604807628), .lit (.int .u32 770255983), .lit (.int .u32 1249150122), .lit (.int .u32 1555081692), .lit (.int .u32 1996064986), .lit (.int .u32 2554220882), .lit (.int .u32 2821834349), .lit (.int .u32 2952996808), .lit (.int .u32 3210313671), .lit (.int .u32 3336571891), .lit (.int .u32 3584528711), .lit (.int .u32 113926993), .lit (.int .u32 338241895), .lit (.int .u32 666307205), .lit (.int .u32 773529912), .lit (.int .u32 1294757372), .lit (.int .u32 1396182291), .lit (.int .u32 1695183700), .lit (.int .u32 1986661051), .lit (.int .u32 2177026350), .lit (.int .u32 2456956037), .lit (.int .u32 2730485921), .lit (.int .u32 2820302411), .lit (.int .u32 3259730800), .lit (.int .u32 3345764771), .lit (.int .u32 3516065817), .lit (.int .u32 3600352804), .lit (.int .u32 4094571909), .lit (.int .u32 275423344), .lit (.int .u32 430227734), .lit (.int .u32 506948616), .lit (.int .u32 659060556), .lit (.int .u32 883997877), .lit (.int .u32 958139571), .lit (.int .u32 1322822218), .lit (.int .u32 1537002063), .lit (.int .u32 1747873779), .lit (.int .u32 1955562222), .lit (.int .u32 2024104815), .lit (.int .u32 2227730452), .lit (.int .u32 2361852424), .lit (.int .u32 2428436474), .lit (.int .u32 2756734187), .lit (.int .u32 3204031479), .lit (.int .u32 3329325298)]
def laid_loop_example_g00473_impl_quarterPlaces {H : Type} : DataW H := .agg [.agg [.lit (.int .i64 0), .lit (.int .i64 4), .lit (.int .i64 8), .lit (.int .i64 12)], .agg [.lit (.int .i64 1), .lit (.int .i64 5), .lit (.int .i64 9), .lit (.int .i64 13)], .agg [.lit (.int .i64 2), .lit (.int .i64 6), .lit (.int .i64 10), .lit (.int .i64 14)], .agg [.lit (.int .i64 3), .lit (.int .i64 7), .lit (.int .i64 11), .lit (.int .i64 15)], .agg [.lit (.int .i64 0), .lit (.int .i64 5), .lit (.int .i64 10), .lit (.int .i64 15)], .agg [.lit (.int .i64 1), .lit (.int .i64 6), .lit (.int .i64 11), .lit (.int .i64 12)], .agg [.lit (.int .i64 2), .lit (.int .i64 7), .lit (.int .i64 8), .lit (.int .i64 13)], .agg [.lit (.int .i64 3), .lit (.int .i64 4), .lit (.int .i64 9), .lit (.int .i64 14)]]

/-- 'laws.FnExactExtract': WHATEVER THE INPUT: true; the input reads as it did. -/
def fnExactExtractSpec : ChangeSpec := { name := "fnExactExtract", vars := ["loop.example/g00473/impl.hashKeys"], fn := fun _ => fun
  | [d1, d2, g1] => { results := [.lit (.bool true)], args := [d1, d2], vars := [g1] }
  | _ => none }
def fnExactExtractRow : OpenClaim := { program := "ytcmbglelllcbdaldoor", sum := "eb9549e7663cfc26340ab7be621be8b34077123559eb14192aca708215ec36ff", func := "loop.example/g00473/laws.FnExactExtract", spec := "fnExactExtract", inPlace := ["internal/bytealg.MakeNoZero"], unfollowed := true, recurses := true, named := ["loop.example/g00473/impl.hashKeys"], leaving := true, apart := false, laid := [("loop.example/g00473/impl.hashKeys", laid_loop_example_g00473_impl_hashKeys)] }
def FnExactExtractSaid : Prop := fnExactExtractRow.holds Tryd.pinned (OpenSpec.ofChange fnExactExtractSpec)

/-- ITS FALSE NEIGHBOUR: 'it returns false'. Refute it at one input. -/
def fnExactExtractWrong : ChangeSpec := { name := "fnExactExtract", vars := ["loop.example/g00473/impl.hashKeys"], fn := fun _ => fun
  | [d1, d2, g1] => { results := [.lit (.bool false)], args := [d1, d2], vars := [g1] }
  | _ => none }
def FnExactExtractWrongFalsely : Prop := fnExactExtractRow.holds Tryd.pinned (OpenSpec.ofChange fnExactExtractWrong)

/-- 'laws.FnExactExpand': WHATEVER THE INPUT: true; the input reads as it did. -/
def fnExactExpandSpec : ChangeSpec := { name := "fnExactExpand", vars := ["loop.example/g00473/impl.hashKeys"], fn := fun _ => fun
  | [d1, d2, d3, g1] => { results := [.lit (.bool true)], args := [d1, d2, d3], vars := [g1] }
  | _ => none }
def fnExactExpandRow : OpenClaim := { program := "ytcmbglelllcbdaldoor", sum := "eb9549e7663cfc26340ab7be621be8b34077123559eb14192aca708215ec36ff", func := "loop.example/g00473/laws.FnExactExpand", spec := "fnExactExpand", inPlace := ["internal/bytealg.MakeNoZero"], unfollowed := true, recurses := true, named := ["loop.example/g00473/impl.hashKeys"], leaving := true, apart := false, laid := [("loop.example/g00473/impl.hashKeys", laid_loop_example_g00473_impl_hashKeys)] }
def FnExactExpandSaid : Prop := fnExactExpandRow.holds Tryd.pinned (OpenSpec.ofChange fnExactExpandSpec)

/-- ITS FALSE NEIGHBOUR: 'it returns false'. Refute it at one input. -/
def fnExactExpandWrong : ChangeSpec := { name := "fnExactExpand", vars := ["loop.example/g00473/impl.hashKeys"], fn := fun _ => fun
  | [d1, d2, d3, g1] => { results := [.lit (.bool false)], args := [d1, d2, d3], vars := [g1] }
  | _ => none }
def FnExactExpandWrongFalsely : Prop := fnExactExpandRow.holds Tryd.pinned (OpenSpec.ofChange fnExactExpandWrong)

/-- 'laws.FnExactDerive': WHATEVER THE INPUT: true; the input reads as it did. -/
def fnExactDeriveSpec : ChangeSpec := { name := "fnExactDerive", vars := ["loop.example/g00473/impl.hashKeys"], fn := fun _ => fun
  | [d1, d2, d3, d4, g1] => { results := [.lit (.bool true)], args := [d1, d2, d3, d4], vars := [g1] }
  | _ => none }
def fnExactDeriveRow : OpenClaim := { program := "ytcmbglelllcbdaldoor", sum := "eb9549e7663cfc26340ab7be621be8b34077123559eb14192aca708215ec36ff", func := "loop.example/g00473/laws.FnExactDerive", spec := "fnExactDerive", inPlace := ["internal/bytealg.MakeNoZero"], unfollowed := true, recurses := true, named := ["loop.example/g00473/impl.hashKeys"], leaving := true, apart := false, laid := [("loop.example/g00473/impl.hashKeys", laid_loop_example_g00473_impl_hashKeys)] }
def FnExactDeriveSaid : Prop := fnExactDeriveRow.holds Tryd.pinned (OpenSpec.ofChange fnExactDeriveSpec)

/-- ITS FALSE NEIGHBOUR: 'it returns false'. Refute it at one input. -/
def fnExactDeriveWrong : ChangeSpec := { name := "fnExactDerive", vars := ["loop.example/g00473/impl.hashKeys"], fn := fun _ => fun
  | [d1, d2, d3, d4, g1] => { results := [.lit (.bool false)], args := [d1, d2, d3, d4], vars := [g1] }
  | _ => none }
def FnExactDeriveWrongFalsely : Prop := fnExactDeriveRow.holds Tryd.pinned (OpenSpec.ofChange fnExactDeriveWrong)

/-- 'laws.FnExactBlock': WHATEVER THE INPUT: true; the input reads as it did. -/
def fnExactBlockSpec : ChangeSpec := { name := "fnExactBlock", vars := ["loop.example/g00473/impl.quarterPlaces"], fn := fun _ => fun
  | [d1, d2, d3, g1] => { results := [.lit (.bool true)], args := [d1, d2, d3], vars := [g1] }
  | _ => none }
def fnExactBlockRow : OpenClaim := { program := "ytcmbglelllcbdaldoor", sum := "eb9549e7663cfc26340ab7be621be8b34077123559eb14192aca708215ec36ff", func := "loop.example/g00473/laws.FnExactBlock", spec := "fnExactBlock", unfollowed := true, recurses := true, named := ["loop.example/g00473/impl.quarterPlaces"], leaving := true, apart := false, laid := [("loop.example/g00473/impl.quarterPlaces", laid_loop_example_g00473_impl_quarterPlaces)] }
def FnExactBlockSaid : Prop := fnExactBlockRow.holds Tryd.pinned (OpenSpec.ofChange fnExactBlockSpec)

/-- ITS FALSE NEIGHBOUR: 'it returns false'. Refute it at one input. -/
def fnExactBlockWrong : ChangeSpec := { name := "fnExactBlock", vars := ["loop.example/g00473/impl.quarterPlaces"], fn := fun _ => fun
  | [d1, d2, d3, g1] => { results := [.lit (.bool false)], args := [d1, d2, d3], vars := [g1] }
  | _ => none }
def FnExactBlockWrongFalsely : Prop := fnExactBlockRow.holds Tryd.pinned (OpenSpec.ofChange fnExactBlockWrong)

/-- 'laws.FnExactStream': WHATEVER THE INPUT: true; the input reads as it did. -/
def fnExactStreamSpec : ChangeSpec := { name := "fnExactStream", vars := ["loop.example/g00473/impl.quarterPlaces"], fn := fun _ => fun
  | [d1, d2, d3, d4, g1] => { results := [.lit (.bool true)], args := [d1, d2, d3, d4], vars := [g1] }
  | _ => none }
def fnExactStreamRow : OpenClaim := { program := "ytcmbglelllcbdaldoor", sum := "eb9549e7663cfc26340ab7be621be8b34077123559eb14192aca708215ec36ff", func := "loop.example/g00473/laws.FnExactStream", spec := "fnExactStream", unfollowed := true, recurses := true, named := ["loop.example/g00473/impl.quarterPlaces"], leaving := true, apart := false, laid := [("loop.example/g00473/impl.quarterPlaces", laid_loop_example_g00473_impl_quarterPlaces)] }
def FnExactStreamSaid : Prop := fnExactStreamRow.holds Tryd.pinned (OpenSpec.ofChange fnExactStreamSpec)

/-- ITS FALSE NEIGHBOUR: 'it returns false'. Refute it at one input. -/
def fnExactStreamWrong : ChangeSpec := { name := "fnExactStream", vars := ["loop.example/g00473/impl.quarterPlaces"], fn := fun _ => fun
  | [d1, d2, d3, d4, g1] => { results := [.lit (.bool false)], args := [d1, d2, d3, d4], vars := [g1] }
  | _ => none }
def FnExactStreamWrongFalsely : Prop := fnExactStreamRow.holds Tryd.pinned (OpenSpec.ofChange fnExactStreamWrong)

/- THE SECOND FORM. 'bulk': how many values and letters a reading holds, each counted each time it is reached (what is shared counts as often as it is met; a slice's spare places count too). A statement '..UptoSaid' is the law's where the arguments, and the package variables that the reading takes, are together of bulk at most 1048576: NARROWER than '..Said'. Prove '..Said' where nothing that the law and all that it calls make is longer than what came in: it says more and counts as full. Else prove '..UptoSaid'. A law counts once. -/
mutual
def uptoBulk {H : Type} : DataW H → Nat
  | .lit (.string bytes) => bytes.length + 1
  | .lit _ => 1
  | .nil => 1
  | .ptr d => uptoBulk d + 1
  | .slice elems spare => uptoBulkAll elems + uptoBulkAll spare + 1
  | .agg parts => uptoBulkAll parts + 1
  | .iface _ d => uptoBulk d + 1
  | .map entries => uptoBulkEntries entries + 1
  | .held _ => 1
def uptoBulkAll {H : Type} : List (DataW H) → Nat
  | [] => 0
  | d :: r => uptoBulk d + uptoBulkAll r
def uptoBulkEntries {H : Type} : List (Lit × DataW H) → Nat
  | [] => 0
  | x :: r => uptoBulkEntry x + uptoBulkEntries r
def uptoBulkEntry {H : Type} : Lit × DataW H → Nat
  | (.string bytes, d) => bytes.length + uptoBulk d + 1
  | (_, d) => uptoBulk d + 1
 end
def uptoSmall : (H : Type) → List (DataW H) → Bool := fun _ ds => decide (uptoBulkAll ds ≤ 1048576)
def OpenSpec.upto (s : _root_.Go.ChangeSpec) : _root_.Go.OpenSpec := { _root_.Go.OpenSpec.ofChange s with cond := some uptoSmall }

/-- 'laws.FnExactExtract', WHERE WHAT IT READS IS OF BULK AT MOST 1048576: true; the input reads as it did. -/
def fnExactExtractUptoRow : OpenClaim := { program := "ytcmbglelllcbdaldoor", sum := "eb9549e7663cfc26340ab7be621be8b34077123559eb14192aca708215ec36ff", func := "loop.example/g00473/laws.FnExactExtract", spec := "fnExactExtract", inPlace := ["internal/bytealg.MakeNoZero"], unfollowed := true, recurses := true, named := ["loop.example/g00473/impl.hashKeys"], leaving := true, apart := false, laid := [("loop.example/g00473/impl.hashKeys", laid_loop_example_g00473_impl_hashKeys)], narrowed := true }
def FnExactExtractUptoSaid : Prop := fnExactExtractUptoRow.holds Tryd.pinned (OpenSpec.upto fnExactExtractSpec)

/-- 'laws.FnExactExpand', WHERE WHAT IT READS IS OF BULK AT MOST 1048576: true; the input reads as it did. -/
def fnExactExpandUptoRow : OpenClaim := { program := "ytcmbglelllcbdaldoor", sum := "eb9549e7663cfc26340ab7be621be8b34077123559eb14192aca708215ec36ff", func := "loop.example/g00473/laws.FnExactExpand", spec := "fnExactExpand", inPlace := ["internal/bytealg.MakeNoZero"], unfollowed := true, recurses := true, named := ["loop.example/g00473/impl.hashKeys"], leaving := true, apart := false, laid := [("loop.example/g00473/impl.hashKeys", laid_loop_example_g00473_impl_hashKeys)], narrowed := true }
def FnExactExpandUptoSaid : Prop := fnExactExpandUptoRow.holds Tryd.pinned (OpenSpec.upto fnExactExpandSpec)

/-- 'laws.FnExactDerive', WHERE WHAT IT READS IS OF BULK AT MOST 1048576: true; the input reads as it did. -/
def fnExactDeriveUptoRow : OpenClaim := { program := "ytcmbglelllcbdaldoor", sum := "eb9549e7663cfc26340ab7be621be8b34077123559eb14192aca708215ec36ff", func := "loop.example/g00473/laws.FnExactDerive", spec := "fnExactDerive", inPlace := ["internal/bytealg.MakeNoZero"], unfollowed := true, recurses := true, named := ["loop.example/g00473/impl.hashKeys"], leaving := true, apart := false, laid := [("loop.example/g00473/impl.hashKeys", laid_loop_example_g00473_impl_hashKeys)], narrowed := true }
def FnExactDeriveUptoSaid : Prop := fnExactDeriveUptoRow.holds Tryd.pinned (OpenSpec.upto fnExactDeriveSpec)

/-- 'laws.FnExactBlock', WHERE WHAT IT READS IS OF BULK AT MOST 1048576: true; the input reads as it did. -/
def fnExactBlockUptoRow : OpenClaim := { program := "ytcmbglelllcbdaldoor", sum := "eb9549e7663cfc26340ab7be621be8b34077123559eb14192aca708215ec36ff", func := "loop.example/g00473/laws.FnExactBlock", spec := "fnExactBlock", unfollowed := true, recurses := true, named := ["loop.example/g00473/impl.quarterPlaces"], leaving := true, apart := false, laid := [("loop.example/g00473/impl.quarterPlaces", laid_loop_example_g00473_impl_quarterPlaces)], narrowed := true }
def FnExactBlockUptoSaid : Prop := fnExactBlockUptoRow.holds Tryd.pinned (OpenSpec.upto fnExactBlockSpec)

/-- 'laws.FnExactStream', WHERE WHAT IT READS IS OF BULK AT MOST 1048576: true; the input reads as it did. -/
def fnExactStreamUptoRow : OpenClaim := { program := "ytcmbglelllcbdaldoor", sum := "eb9549e7663cfc26340ab7be621be8b34077123559eb14192aca708215ec36ff", func := "loop.example/g00473/laws.FnExactStream", spec := "fnExactStream", unfollowed := true, recurses := true, named := ["loop.example/g00473/impl.quarterPlaces"], leaving := true, apart := false, laid := [("loop.example/g00473/impl.quarterPlaces", laid_loop_example_g00473_impl_quarterPlaces)], narrowed := true }
def FnExactStreamUptoSaid : Prop := fnExactStreamUptoRow.holds Tryd.pinned (OpenSpec.upto fnExactStreamSpec)

end Rows
end Go.Proofs.YtcmbglelllcbdalDoor
