/-
  A line's kinds, and whether it is right, by the program and by the specification. Conditions: lengths that a law hands over, bytes that lie there.
  What is told of a line's kind, and whether a line is right, by the program and by the specification. Conditions: lengths that a law hands over, bytes that lie there.
  Whether a line is right, by the program and by the specification. Conditions: lengths that a law hands over, bytes that lie there.
  Whether a line is right, by the program. Conditions: lengths that a law hands over, bytes that lie there.
  A line's bytes, as lists. No conditions beyond each fact's own.
  What the specification answers of a line's bytes. Conditions: lengths that a law hands over, bytes that lie there.
  What the program answers of a line's bytes. Conditions: lengths that a law hands over, bytes that lie there.
  What stands in a book at a place, as lists. No conditions beyond each fact's own.
  What the program reads of a book at a place. Conditions: bytes that lie there, as many as a law hands over.
-/
import Derived.Test.YthfnechcddmjkaaGreatDoorPar03
import Derived.Test.YthfnechcddmjkaaGreatDoorPar01
import Derived.Test.YthfnechcddmjkaaGreatDoorPar02
import Derived.Test.YthfnechcddmjkaaGreatDoorPar10
import Derived.Deep.RegionHeld3
import Derived.Test.YthfnechcddmjkaaGreatDoorPar06
namespace Go.Proofs.YthfnechcddmjkaaGreatDoor
open Go.RowKit
set_option maxRecDepth 100000

def lnB (kd : Int) (s : ByteArray) (t d : Int) (n : Nat) : Bool :=
  if kd = 1 then itB s t d n else if kd = 2 then rtB s && (decide (t = 0) && (decide (d = 0) && decide (n = 0)))
  else if kd = 3 then decide (s = ByteArray.empty) && (decide (t = 0) && (decide (0 ≤ d ∧ d ≤ 100000) && decide (n = 0))) else false

end Go.Proofs.YthfnechcddmjkaaGreatDoor

namespace Go.Proofs.YthfnechcddmjkaaGreatDoor
open Go.RowKit
set_option maxRecDepth 100000

end Go.Proofs.YthfnechcddmjkaaGreatDoor

namespace Go.Proofs.YthfnechcddmjkaaGreatDoor
open Go.RowKit
set_option maxRecDepth 100000

end Go.Proofs.YthfnechcddmjkaaGreatDoor

namespace Go.Proofs.YthfnechcddmjkaaGreatDoor
open Go.RowKit
set_option maxRecDepth 100000

end Go.Proofs.YthfnechcddmjkaaGreatDoor

namespace Go.Proofs.YthfnechcddmjkaaGreatDoor
open Go.RowKit
set_option maxRecDepth 100000

def rtL (kd : Int) (s : ByteArray) : List Int := if kd = 3 then List.replicate 8 0 else unL s
def lyL (kd : Int) (s : ByteArray) (t d : Int) (n : Nat) (xs : List Int) : List Int := [kd] ++ rtL kd s ++ [t] ++ (fitL d 4).reverse ++ (fitL (n : Int) 2).reverse ++ xs
noncomputable def lineN (kd : Int) (s : ByteArray) (t d : Int) (n : Nat) : Nat := if lnB kd s t d n = true then 18 + n else 0
noncomputable def lineL (kd : Int) (s : ByteArray) (t d : Int) (n : Nat) (xs : List Int) : List Int := if lnB kd s t d n = true then lyL kd s t d n xs ++ (fitL ((16 + n : Nat) : Int) 2).reverse else []

end Go.Proofs.YthfnechcddmjkaaGreatDoor

namespace Go.Proofs.YthfnechcddmjkaaGreatDoor
open Go.RowKit
set_option maxRecDepth 100000

end Go.Proofs.YthfnechcddmjkaaGreatDoor

namespace Go.Proofs.YthfnechcddmjkaaGreatDoor
open Go.RowKit
set_option maxRecDepth 100000

end Go.Proofs.YthfnechcddmjkaaGreatDoor

namespace Go.Proofs.YthfnechcddmjkaaGreatDoor
open Go.RowKit
set_option maxRecDepth 100000

def laN (bs : List Int) (a : Nat) : Nat := gN ((bs.drop (a + 14)).take 2)
def laK (bs : List Int) (a : Nat) : Int := bs.getD a 0
def laT (bs : List Int) (a : Nat) : Int := bs.getD (a + 9) 0
def laD (bs : List Int) (a : Nat) : Int := (gN ((bs.drop (a + 10)).take 4) : Nat)
def laS (bs : List Int) (a : Nat) : ByteArray := if laK bs a = 3 then ByteArray.empty else strOfNums (hexL ((bs.drop (a + 1)).take 8))
def laX (bs : List Int) (a : Nat) : List Int := (bs.drop (a + 16)).take (laN bs a)
noncomputable def laB (bs : List Int) (a : Nat) : Bool := (strOfNums (lineL (laK bs a) (laS bs a) (laT bs a) (laD bs a) (laN bs a) (laX bs a))).toList == (strOfNums ((bs.drop a).take (18 + laN bs a))).toList
def laOk (bs : List Int) (at_ : Int) : Prop := 0 ≤ at_ ∧ at_.toNat + 18 + laN bs at_.toNat ≤ bs.length ∧ laB bs at_.toNat = true

end Go.Proofs.YthfnechcddmjkaaGreatDoor

namespace Go.Proofs.YthfnechcddmjkaaGreatDoor
open Go.RowKit
set_option maxRecDepth 100000

theorem lineAt_far (p : Option Addr) (n c : Nat) (at_ : Int) (w : World) (hn : n ≤ 1048576) (ha : at_ ≤ 9223372036854775807) (h : at_ < 0 ∨ (n : Int) - at_ < 16) :
    Calls Tryz.prog 130 #[.slice p n c, .int .i64 at_] w fun e w' => e = .returned (.tuple #[.nilIface, .int .i64 0, .iface 166 (.agg #[.int .i64 at_])]) ∧ w' = w := by
  by_cases h0 : at_ < 0
  · clear h
    go_enter Tryz.func130, Tryz.ntmps130
    go_wp2_with (fail)
    refine bodyPost_ret (v := .tuple #[.nilIface, .int .i64 0, .iface 166 (.agg #[.int .i64 at_])]) ?_ rfl ⟨rfl, rfl⟩
    simp only [results, Tryz.f130]
    go_simp
  · have h1 : (n : Int) - at_ < 16 := by omega
    have hw : IntKind.i64.wrap ((n : Int) - at_) = (n : Int) - at_ := by rw [IntKind.wrap_i64]; omega
    clear h
    go_enter Tryz.func130, Tryz.ntmps130
    go_wp2_with (fail)
    refine bodyPost_ret (v := .tuple #[.nilIface, .int .i64 0, .iface 166 (.agg #[.int .i64 at_])]) ?_ rfl ⟨rfl, rfl⟩
    simp only [results, Tryz.f130]
    go_simp

def kindV (kd : Int) (s : ByteArray) (t d : Int) (p : Option Addr) (n c : Nat) : Value :=
  if kd = 1 then .iface 218 (.agg #[.string s, .int .i64 t, .int .i64 d, .slice p n c]) else if kd = 2 then .iface 220 (.agg #[.string s]) else .iface 222 (.agg #[.int .i64 d])

end Go.Proofs.YthfnechcddmjkaaGreatDoor
