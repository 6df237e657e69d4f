/-
  No cell of these rows narrows 'for every input' (looked for: loops, veiled, ifaces, maps, wideKeys, modest, calm, conditions, laid).
  DERIVED. THE GIVEN ROWS OF THIS SEAT. 4 by the template 'for every input the law returns true; each argument reads behind the call as it read before'; 0 by the template 'total and deterministic' (their statements: YtkdholfcmgedjaoTotals.lean).
  GIVEN WITH THE SEED: the statements are not yours to turn. If you find one false, say at which input.
  Laid BY PROGRAM, IN A SANDBOX (cutbox-rows.mjs): the forced cells as the released guide's own fill.sh prints them over the translation 97dac9d995836e12… (all of the seat's roots in one cut). By AI agents, Wed Nov 11 2026. No macro, syntax, notation, axiom, sorry.
-/
import Derived.Test.YtkdholfcmgedjaoChecked
import GoSem.Claim
import GoSem.ClaimJoined
import GoSem.ClaimMapViews
import Derived.JoinedTies
import Derived.KernelRfl
namespace Go.Proofs.Ytkdholfcmgedjao
/- THE CELL 'sum', in the pinned program and in every row, IS THE sha256 OF THE DUMP (.gsa) THAT YtkdholfcmgedjaoProg.lean LOADS. Nothing in Lean hashes anything: it is a label: what it is worth is what the hold of that sum in a sandbox is worth. -/
noncomputable def Try.pinned : Pinned := { name := "ytkdholfcmgedjao", sum := "97dac9d995836e1202163160817f9bb60f3d0c1786edce586af0bb2fe09bba95", checked := Try.checked }
namespace Rows
def none {H : Type} : Left H := { results := [], args := [] }

/-- 'laws.FnExactPublic': WHATEVER THE INPUT: true; the input reads as it did. -/
def fnExactPublicSpec : ChangeSpec := { name := "fnExactPublic", fn := fun _ => fun
  | [d] => { results := [.lit (.bool true)], args := [d] }
  | _ => none }
def fnExactPublicRow : OpenClaim := { program := "ytkdholfcmgedjao", sum := "97dac9d995836e1202163160817f9bb60f3d0c1786edce586af0bb2fe09bba95", func := "loop.example/g00473/laws.FnExactPublic", spec := "fnExactPublic", inPlace := ["math/bits.Add64"], unfollowed := true, recurses := true, apart := false }
def FnExactPublicSaid : Prop := fnExactPublicRow.holds Try.pinned (OpenSpec.ofChange fnExactPublicSpec)

/-- ITS FALSE NEIGHBOUR: 'it returns false'. Refute it at one input. -/
def fnExactPublicWrong : ChangeSpec := { name := "fnExactPublic", fn := fun _ => fun
  | [d] => { results := [.lit (.bool false)], args := [d] }
  | _ => none }
def FnExactPublicWrongFalsely : Prop := fnExactPublicRow.holds Try.pinned (OpenSpec.ofChange fnExactPublicWrong)

/-- 'laws.FnExactAgreed': WHATEVER THE INPUT: true; the input reads as it did. -/
def fnExactAgreedSpec : ChangeSpec := { name := "fnExactAgreed", fn := fun _ => fun
  | [d1, d2] => { results := [.lit (.bool true)], args := [d1, d2] }
  | _ => none }
def fnExactAgreedRow : OpenClaim := { program := "ytkdholfcmgedjao", sum := "97dac9d995836e1202163160817f9bb60f3d0c1786edce586af0bb2fe09bba95", func := "loop.example/g00473/laws.FnExactAgreed", spec := "fnExactAgreed", inPlace := ["math/bits.Add64"], unfollowed := true, recurses := true, apart := false }
def FnExactAgreedSaid : Prop := fnExactAgreedRow.holds Try.pinned (OpenSpec.ofChange fnExactAgreedSpec)

/-- ITS FALSE NEIGHBOUR: 'it returns false'. Refute it at one input. -/
def fnExactAgreedWrong : ChangeSpec := { name := "fnExactAgreed", fn := fun _ => fun
  | [d1, d2] => { results := [.lit (.bool false)], args := [d1, d2] }
  | _ => none }
def FnExactAgreedWrongFalsely : Prop := fnExactAgreedRow.holds Try.pinned (OpenSpec.ofChange fnExactAgreedWrong)

/-- 'laws.FnExactPadded': WHATEVER THE INPUT: true; the input reads as it did. -/
def fnExactPaddedSpec : ChangeSpec := { name := "fnExactPadded", fn := fun _ => fun
  | [d] => { results := [.lit (.bool true)], args := [d] }
  | _ => none }
def fnExactPaddedRow : OpenClaim := { program := "ytkdholfcmgedjao", sum := "97dac9d995836e1202163160817f9bb60f3d0c1786edce586af0bb2fe09bba95", func := "loop.example/g00473/laws.FnExactPadded", spec := "fnExactPadded", apart := false }
def FnExactPaddedSaid : Prop := fnExactPaddedRow.holds Try.pinned (OpenSpec.ofChange fnExactPaddedSpec)

/-- ITS FALSE NEIGHBOUR: 'it returns false'. Refute it at one input. -/
def fnExactPaddedWrong : ChangeSpec := { name := "fnExactPadded", fn := fun _ => fun
  | [d] => { results := [.lit (.bool false)], args := [d] }
  | _ => none }
def FnExactPaddedWrongFalsely : Prop := fnExactPaddedRow.holds Try.pinned (OpenSpec.ofChange fnExactPaddedWrong)

/-- 'laws.FnExactUnpadded': WHATEVER THE INPUT: true; the input reads as it did. -/
def fnExactUnpaddedSpec : ChangeSpec := { name := "fnExactUnpadded", fn := fun _ => fun
  | [d] => { results := [.lit (.bool true)], args := [d] }
  | _ => none }
def fnExactUnpaddedRow : OpenClaim := { program := "ytkdholfcmgedjao", sum := "97dac9d995836e1202163160817f9bb60f3d0c1786edce586af0bb2fe09bba95", func := "loop.example/g00473/laws.FnExactUnpadded", spec := "fnExactUnpadded", apart := false }
def FnExactUnpaddedSaid : Prop := fnExactUnpaddedRow.holds Try.pinned (OpenSpec.ofChange fnExactUnpaddedSpec)

/-- ITS FALSE NEIGHBOUR: 'it returns false'. Refute it at one input. -/
def fnExactUnpaddedWrong : ChangeSpec := { name := "fnExactUnpadded", fn := fun _ => fun
  | [d] => { results := [.lit (.bool false)], args := [d] }
  | _ => none }
def FnExactUnpaddedWrongFalsely : Prop := fnExactUnpaddedRow.holds Try.pinned (OpenSpec.ofChange fnExactUnpaddedWrong)

/- THE SECOND FORM. 'bulk': how many values and letters a reading holds, each counted each time it is reached (what is shared counts as often as it is met; a slice's spare places count too). A statement '..UptoSaid' is the law's where the arguments, and the package variables that the reading takes, are together of bulk at most 1048576: NARROWER than '..Said'. Prove '..Said' where nothing that the law and all that it calls make is longer than what came in: it says more and counts as full. Else prove '..UptoSaid'. A law counts once. -/
mutual
def uptoBulk {H : Type} : DataW H → Nat
  | .lit (.string bytes) => bytes.length + 1
  | .lit _ => 1
  | .nil => 1
  | .ptr d => uptoBulk d + 1
  | .slice elems spare => uptoBulkAll elems + uptoBulkAll spare + 1
  | .agg parts => uptoBulkAll parts + 1
  | .iface _ d => uptoBulk d + 1
  | .map entries => uptoBulkEntries entries + 1
  | .held _ => 1
def uptoBulkAll {H : Type} : List (DataW H) → Nat
  | [] => 0
  | d :: r => uptoBulk d + uptoBulkAll r
def uptoBulkEntries {H : Type} : List (Lit × DataW H) → Nat
  | [] => 0
  | x :: r => uptoBulkEntry x + uptoBulkEntries r
def uptoBulkEntry {H : Type} : Lit × DataW H → Nat
  | (.string bytes, d) => bytes.length + uptoBulk d + 1
  | (_, d) => uptoBulk d + 1
 end
def uptoSmall : (H : Type) → List (DataW H) → Bool := fun _ ds => decide (uptoBulkAll ds ≤ 1048576)
def OpenSpec.upto (s : _root_.Go.ChangeSpec) : _root_.Go.OpenSpec := { _root_.Go.OpenSpec.ofChange s with cond := some uptoSmall }

/-- 'laws.FnExactPublic', WHERE WHAT IT READS IS OF BULK AT MOST 1048576: true; the input reads as it did. -/
def fnExactPublicUptoRow : OpenClaim := { program := "ytkdholfcmgedjao", sum := "97dac9d995836e1202163160817f9bb60f3d0c1786edce586af0bb2fe09bba95", func := "loop.example/g00473/laws.FnExactPublic", spec := "fnExactPublic", inPlace := ["math/bits.Add64"], unfollowed := true, recurses := true, apart := false, narrowed := true }
def FnExactPublicUptoSaid : Prop := fnExactPublicUptoRow.holds Try.pinned (OpenSpec.upto fnExactPublicSpec)

/-- 'laws.FnExactAgreed', WHERE WHAT IT READS IS OF BULK AT MOST 1048576: true; the input reads as it did. -/
def fnExactAgreedUptoRow : OpenClaim := { program := "ytkdholfcmgedjao", sum := "97dac9d995836e1202163160817f9bb60f3d0c1786edce586af0bb2fe09bba95", func := "loop.example/g00473/laws.FnExactAgreed", spec := "fnExactAgreed", inPlace := ["math/bits.Add64"], unfollowed := true, recurses := true, apart := false, narrowed := true }
def FnExactAgreedUptoSaid : Prop := fnExactAgreedUptoRow.holds Try.pinned (OpenSpec.upto fnExactAgreedSpec)

/-- 'laws.FnExactPadded', WHERE WHAT IT READS IS OF BULK AT MOST 1048576: true; the input reads as it did. -/
def fnExactPaddedUptoRow : OpenClaim := { program := "ytkdholfcmgedjao", sum := "97dac9d995836e1202163160817f9bb60f3d0c1786edce586af0bb2fe09bba95", func := "loop.example/g00473/laws.FnExactPadded", spec := "fnExactPadded", apart := false, narrowed := true }
def FnExactPaddedUptoSaid : Prop := fnExactPaddedUptoRow.holds Try.pinned (OpenSpec.upto fnExactPaddedSpec)

/-- 'laws.FnExactUnpadded', WHERE WHAT IT READS IS OF BULK AT MOST 1048576: true; the input reads as it did. -/
def fnExactUnpaddedUptoRow : OpenClaim := { program := "ytkdholfcmgedjao", sum := "97dac9d995836e1202163160817f9bb60f3d0c1786edce586af0bb2fe09bba95", func := "loop.example/g00473/laws.FnExactUnpadded", spec := "fnExactUnpadded", apart := false, narrowed := true }
def FnExactUnpaddedUptoSaid : Prop := fnExactUnpaddedUptoRow.holds Try.pinned (OpenSpec.upto fnExactUnpaddedSpec)

end Rows
end Go.Proofs.Ytkdholfcmgedjao
