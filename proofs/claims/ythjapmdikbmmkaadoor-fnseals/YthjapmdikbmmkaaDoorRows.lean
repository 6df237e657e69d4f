/-
  NARROWER THAN 'FOR EVERY INPUT', by the rows' own cells (each row's printed sentence says how): FnSeals: laid · FnExactSeal: laid · FnExactOpen: laid.
  DERIVED. THE GIVEN ROWS OF THIS SEAT. 3 by the template 'for every input the law returns true; each argument reads behind the call as it read before'; 0 by the template 'total and deterministic' (their statements: YthjapmdikbmmkaaDoorTotals.lean).
  GIVEN WITH THE SEED: the statements are not yours to turn. If you find one false, say at which input.
  Laid BY PROGRAM, IN A SANDBOX (cutbox-rows.mjs): the forced cells as the released guide's own fill.sh prints them over the translation 19a6d47ae833c3c1… (all of the seat's roots in one cut). By AI agents, Wed Nov 11 2026. No macro, syntax, notation, axiom, sorry.
-/
import Derived.Test.YthjapmdikbmmkaaDoorChecked
import GoSem.Claim
import GoSem.ClaimJoined
import GoSem.ClaimMapViews
import Derived.JoinedTies
import Derived.KernelRfl
namespace Go.Proofs.YthjapmdikbmmkaaDoor
/- THE CELL 'sum', in the pinned program and in every row, IS THE sha256 OF THE DUMP (.gsa) THAT YthjapmdikbmmkaaDoorProg.lean LOADS. Nothing in Lean hashes anything: it is a label: what it is worth is what the hold of that sum in a sandbox is worth. -/
noncomputable def Tryd.pinned : Pinned := { name := "ythjapmdikbmmkaadoor", sum := "19a6d47ae833c3c1ee7e42aa40336585ccc5d9e9dce5c4aba99c71a3381fb63d", checked := Tryd.checked }
namespace Rows
def none {H : Type} : Left H := { results := [], args := [] }

/- WHAT THE LISTED PACKAGE-LEVEL VARIABLES READ AS WHEN THE CALL BEGINS. Each datum BY PROGRAM (the guide's laid-datum.mjs) off the statement by which the dump's own 'gosem.cut.vars' lays the variable. In a bare row this is a premise. The card (YthjapmdikbmmkaaDoorCards.lean) ties it to the program's text. -/
def laid_loop_example_g00473_impl_quarterPlaces {H : Type} : DataW H := .agg [.agg [.lit (.int .i64 0), .lit (.int .i64 4), .lit (.int .i64 8), .lit (.int .i64 12)], .agg [.lit (.int .i64 1), .lit (.int .i64 5), .lit (.int .i64 9), .lit (.int .i64 13)], .agg [.lit (.int .i64 2), .lit (.int .i64 6), .lit (.int .i64 10), .lit (.int .i64 14)], .agg [.lit (.int .i64 3), .lit (.int .i64 7), .lit (.int .i64 11), .lit (.int .i64 15)], .agg [.lit (.int .i64 0), .lit (.int .i64 5), .lit (.int .i64 10), .lit (.int .i64 15)], .agg [.lit (.int .i64 1), .lit (.int .i64 6), .lit (.int .i64 11), .lit (.int .i64 12)], .agg [.lit (.int .i64 2), .lit (.int .i64 7), .lit (.int .i64 8), .lit (.int .i64 13)], .agg [.lit (.int .i64 3), .lit (.int .i64 4), .lit (.int .i64 9), .lit (.int .i64 14)]]

/-- 'laws.FnSeals': WHATEVER THE INPUT: true; the input reads as it did. -/
def fnSealsSpec : ChangeSpec := { name := "fnSeals", vars := ["loop.example/g00473/impl.quarterPlaces"], fn := fun _ => fun
  | [d, g1] => { results := [.lit (.bool true)], args := [d], vars := [g1] }
  | _ => none }
def fnSealsRow : OpenClaim := { program := "ythjapmdikbmmkaadoor", sum := "19a6d47ae833c3c1ee7e42aa40336585ccc5d9e9dce5c4aba99c71a3381fb63d", func := "loop.example/g00473/laws.FnSeals", spec := "fnSeals", unfollowed := true, recurses := true, named := ["loop.example/g00473/impl.quarterPlaces"], leaving := true, apart := false, laid := [("loop.example/g00473/impl.quarterPlaces", laid_loop_example_g00473_impl_quarterPlaces)] }
def FnSealsSaid : Prop := fnSealsRow.holds Tryd.pinned (OpenSpec.ofChange fnSealsSpec)

/-- ITS FALSE NEIGHBOUR: 'it returns false'. Refute it at one input. -/
def fnSealsWrong : ChangeSpec := { name := "fnSeals", vars := ["loop.example/g00473/impl.quarterPlaces"], fn := fun _ => fun
  | [d, g1] => { results := [.lit (.bool false)], args := [d], vars := [g1] }
  | _ => none }
def FnSealsWrongFalsely : Prop := fnSealsRow.holds Tryd.pinned (OpenSpec.ofChange fnSealsWrong)

/-- 'laws.FnExactSeal': WHATEVER THE INPUT: true; the input reads as it did. -/
def fnExactSealSpec : ChangeSpec := { name := "fnExactSeal", vars := ["loop.example/g00473/impl.quarterPlaces"], fn := fun _ => fun
  | [d1, d2, d3, d4, g1] => { results := [.lit (.bool true)], args := [d1, d2, d3, d4], vars := [g1] }
  | _ => none }
def fnExactSealRow : OpenClaim := { program := "ythjapmdikbmmkaadoor", sum := "19a6d47ae833c3c1ee7e42aa40336585ccc5d9e9dce5c4aba99c71a3381fb63d", func := "loop.example/g00473/laws.FnExactSeal", spec := "fnExactSeal", unfollowed := true, recurses := true, named := ["loop.example/g00473/impl.quarterPlaces"], leaving := true, apart := false, laid := [("loop.example/g00473/impl.quarterPlaces", laid_loop_example_g00473_impl_quarterPlaces)] }
def FnExactSealSaid : Prop := fnExactSealRow.holds Tryd.pinned (OpenSpec.ofChange fnExactSealSpec)

/-- ITS FALSE NEIGHBOUR: 'it returns false'. Refute it at one input. -/
def fnExactSealWrong : ChangeSpec := { name := "fnExactSeal", vars := ["loop.example/g00473/impl.quarterPlaces"], fn := fun _ => fun
  | [d1, d2, d3, d4, g1] => { results := [.lit (.bool false)], args := [d1, d2, d3, d4], vars := [g1] }
  | _ => none }
def FnExactSealWrongFalsely : Prop := fnExactSealRow.holds Tryd.pinned (OpenSpec.ofChange fnExactSealWrong)

/-- 'laws.FnExactOpen': WHATEVER THE INPUT: true; the input reads as it did. -/
def fnExactOpenSpec : ChangeSpec := { name := "fnExactOpen", vars := ["loop.example/g00473/impl.quarterPlaces"], fn := fun _ => fun
  | [d1, d2, d3, d4, g1] => { results := [.lit (.bool true)], args := [d1, d2, d3, d4], vars := [g1] }
  | _ => none }
def fnExactOpenRow : OpenClaim := { program := "ythjapmdikbmmkaadoor", sum := "19a6d47ae833c3c1ee7e42aa40336585ccc5d9e9dce5c4aba99c71a3381fb63d", func := "loop.example/g00473/laws.FnExactOpen", spec := "fnExactOpen", unfollowed := true, recurses := true, named := ["loop.example/g00473/impl.quarterPlaces"], leaving := true, apart := false, laid := [("loop.example/g00473/impl.quarterPlaces", laid_loop_example_g00473_impl_quarterPlaces)] }
def FnExactOpenSaid : Prop := fnExactOpenRow.holds Tryd.pinned (OpenSpec.ofChange fnExactOpenSpec)

/-- ITS FALSE NEIGHBOUR: 'it returns false'. Refute it at one input. -/
def fnExactOpenWrong : ChangeSpec := { name := "fnExactOpen", vars := ["loop.example/g00473/impl.quarterPlaces"], fn := fun _ => fun
  | [d1, d2, d3, d4, g1] => { results := [.lit (.bool false)], args := [d1, d2, d3, d4], vars := [g1] }
  | _ => none }
def FnExactOpenWrongFalsely : Prop := fnExactOpenRow.holds Tryd.pinned (OpenSpec.ofChange fnExactOpenWrong)

/- THE SECOND FORM. 'bulk': how many values and letters a reading holds, each counted each time it is reached (what is shared counts as often as it is met; a slice's spare places count too). A statement '..UptoSaid' is the law's where the arguments, and the package variables that the reading takes, are together of bulk at most 1048576: NARROWER than '..Said'. Prove '..Said' where nothing that the law and all that it calls make is longer than what came in: it says more and counts as full. Else prove '..UptoSaid'. A law counts once. -/
mutual
def uptoBulk {H : Type} : DataW H → Nat
  | .lit (.string bytes) => bytes.length + 1
  | .lit _ => 1
  | .nil => 1
  | .ptr d => uptoBulk d + 1
  | .slice elems spare => uptoBulkAll elems + uptoBulkAll spare + 1
  | .agg parts => uptoBulkAll parts + 1
  | .iface _ d => uptoBulk d + 1
  | .map entries => uptoBulkEntries entries + 1
  | .held _ => 1
def uptoBulkAll {H : Type} : List (DataW H) → Nat
  | [] => 0
  | d :: r => uptoBulk d + uptoBulkAll r
def uptoBulkEntries {H : Type} : List (Lit × DataW H) → Nat
  | [] => 0
  | x :: r => uptoBulkEntry x + uptoBulkEntries r
def uptoBulkEntry {H : Type} : Lit × DataW H → Nat
  | (.string bytes, d) => bytes.length + uptoBulk d + 1
  | (_, d) => uptoBulk d + 1
 end
def uptoSmall : (H : Type) → List (DataW H) → Bool := fun _ ds => decide (uptoBulkAll ds ≤ 1048576)
def OpenSpec.upto (s : _root_.Go.ChangeSpec) : _root_.Go.OpenSpec := { _root_.Go.OpenSpec.ofChange s with cond := some uptoSmall }

/-- 'laws.FnSeals', WHERE WHAT IT READS IS OF BULK AT MOST 1048576: true; the input reads as it did. -/
def fnSealsUptoRow : OpenClaim := { program := "ythjapmdikbmmkaadoor", sum := "19a6d47ae833c3c1ee7e42aa40336585ccc5d9e9dce5c4aba99c71a3381fb63d", func := "loop.example/g00473/laws.FnSeals", spec := "fnSeals", unfollowed := true, recurses := true, named := ["loop.example/g00473/impl.quarterPlaces"], leaving := true, apart := false, laid := [("loop.example/g00473/impl.quarterPlaces", laid_loop_example_g00473_impl_quarterPlaces)], narrowed := true }
def FnSealsUptoSaid : Prop := fnSealsUptoRow.holds Tryd.pinned (OpenSpec.upto fnSealsSpec)

/-- 'laws.FnExactSeal', WHERE WHAT IT READS IS OF BULK AT MOST 1048576: true; the input reads as it did. -/
def fnExactSealUptoRow : OpenClaim := { program := "ythjapmdikbmmkaadoor", sum := "19a6d47ae833c3c1ee7e42aa40336585ccc5d9e9dce5c4aba99c71a3381fb63d", func := "loop.example/g00473/laws.FnExactSeal", spec := "fnExactSeal", unfollowed := true, recurses := true, named := ["loop.example/g00473/impl.quarterPlaces"], leaving := true, apart := false, laid := [("loop.example/g00473/impl.quarterPlaces", laid_loop_example_g00473_impl_quarterPlaces)], narrowed := true }
def FnExactSealUptoSaid : Prop := fnExactSealUptoRow.holds Tryd.pinned (OpenSpec.upto fnExactSealSpec)

/-- 'laws.FnExactOpen', WHERE WHAT IT READS IS OF BULK AT MOST 1048576: true; the input reads as it did. -/
def fnExactOpenUptoRow : OpenClaim := { program := "ythjapmdikbmmkaadoor", sum := "19a6d47ae833c3c1ee7e42aa40336585ccc5d9e9dce5c4aba99c71a3381fb63d", func := "loop.example/g00473/laws.FnExactOpen", spec := "fnExactOpen", unfollowed := true, recurses := true, named := ["loop.example/g00473/impl.quarterPlaces"], leaving := true, apart := false, laid := [("loop.example/g00473/impl.quarterPlaces", laid_loop_example_g00473_impl_quarterPlaces)], narrowed := true }
def FnExactOpenUptoSaid : Prop := fnExactOpenUptoRow.holds Tryd.pinned (OpenSpec.upto fnExactOpenSpec)

end Rows
end Go.Proofs.YthjapmdikbmmkaaDoor
