/-
  An item that comes in as an argument, by its cells: a text, two numbers, a row of bytes. Conditions: none but that it can be read.
-/
import Derived.Test.YthfnechcddmjkaaGreatDoorPar01
import Derived.Test.YthfnechcddmjkaaGreatDoorPar02
import Derived.Lib.SmallJoins
import Derived.Deep.Slices
import Derived.Test.YthfnechcddmjkaaGreatDoorRows
namespace Go.Proofs.YthfnechcddmjkaaGreatDoor
open Go.ChangeShapes Go.WideShapes Go.RowKit
set_option maxRecDepth 100000

structure ItA where
  s : ByteArray
  t : Int
  d : Int
  p : Option Addr
  n : Nat
  c : Nat
  xs : List Int
instance : Inhabited ItA := ⟨⟨ByteArray.empty, 0, 0, none, 0, 0, []⟩⟩
def ItA.vals (x : ItA) : List Value := [.string x.s, .int .i64 x.t, .int .i64 x.d, .slice x.p x.n x.c]

structure ItA.Ok (w : World) (x : ItA) : Prop where
  hs : x.s.size ≤ 9223372036854775807
  ht : -9223372036854775808 ≤ x.t ∧ x.t ≤ 9223372036854775807
  hd : -9223372036854775808 ≤ x.d ∧ x.d ≤ 9223372036854775807
  hn : x.n ≤ 9223372036854775807
  len : x.xs.length = x.n
  bytes : BytesIn w x.p x.n x.xs
  byte : ∀ y ∈ x.xs, 0 ≤ y ∧ y < 256

theorem ItA.Ok.on {w w' : World} {x : ItA} (h : x.Ok w) (b : Below w.heap.size w w') : x.Ok w' := ⟨h.hs, h.ht, h.hd, h.hn, h.len, in_below h.bytes b, h.byte⟩

def ItemsIn (w : World) (p : Option Addr) (n : Nat) (its : List ItA) : Prop :=
  0 < n → ∃ b o, p = some ⟨b, o, none⟩ ∧ ∀ i j v, i < n → (its.getD i default).vals[j]? = some v → w.cell? ⟨b, o + i * 4 + j, none⟩ = some v

theorem itemsIn_on {w w' : World} {p : Option Addr} {n : Nat} {its : List ItA} (h : ItemsIn w p n its) (hb : Below w.heap.size w w') : ItemsIn w' p n its := by
  intro hn
  obtain ⟨b, o, rfl, hc⟩ := h hn
  refine ⟨b, o, rfl, fun i j v hi hv => ?_⟩
  have hlt : b < w.heap.size := World.block_lt_of_cell? w ⟨b, o + i * 4 + j, none⟩ (hc i j v hi hv)
  rw [hb.cell (p := ⟨b, o + i * 4 + j, none⟩) hlt]
  exact hc i j v hi hv

end Go.Proofs.YthfnechcddmjkaaGreatDoor
