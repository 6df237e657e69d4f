/-
  An item that comes in as an argument, by its cells: a text, two numbers, a row of bytes. Conditions: none but that it can be read.
-/
import Derived.Test.YthfnechcddmjkaaGreatDoorParf01
import Derived.Test.YthfnechcddmjkaaGreatDoorParf02
import Derived.Lib.SmallJoins
import Derived.Deep.Slices
import Derived.Test.YthfnechcddmjkaaGreatDoorRows
namespace Go.Proofs.YthfnechcddmjkaaGreatDoor
open Go.ChangeShapes Go.WideShapes Go.RowKit
set_option maxRecDepth 100000

structure ItA where
  s : ByteArray
  t : Int
  d : Int
  p : Option Addr
  n : Nat
  c : Nat
  xs : List Int
instance : Inhabited ItA := ⟨⟨ByteArray.empty, 0, 0, none, 0, 0, []⟩⟩
def ItA.vals (x : ItA) : List Value := [.string x.s, .int .i64 x.t, .int .i64 x.d, .slice x.p x.n x.c]

structure ItA.Ok (w : World) (x : ItA) : Prop where
  hs : x.s.size ≤ 9223372036854775807
  ht : -9223372036854775808 ≤ x.t ∧ x.t ≤ 9223372036854775807
  hd : -9223372036854775808 ≤ x.d ∧ x.d ≤ 9223372036854775807
  hn : x.n ≤ 9223372036854775807
  len : x.xs.length = x.n
  bytes : BytesIn w x.p x.n x.xs
  byte : ∀ y ∈ x.xs, 0 ≤ y ∧ y < 256

theorem ItA.Ok.on {w w' : World} {x : ItA} (h : x.Ok w) (b : Below w.heap.size w w') : x.Ok w' := ⟨h.hs, h.ht, h.hd, h.hn, h.len, in_below h.bytes b, h.byte⟩

theorem item_cells {H : Type} {enc : TypeId × Value → H} {w : World} {base : Nat} {spare : Nat → Bool} {held : Bool} {fuel : Nat} {u0 u1 u2 u3 : Value} {y0 y1 y2 y3 : DataW H × List MemPlace}
    (t0 : DataW.trod enc Tryz.prog w base spare held fuel 9 [u0] = some y0) (t1 : DataW.trod enc Tryz.prog w base spare held fuel 3 [u1] = some y1) (t2 : DataW.trod enc Tryz.prog w base spare held fuel 3 [u2] = some y2) (t3 : DataW.trod enc Tryz.prog w base spare held fuel 22 [u3] = some y3) :
    ∃ x : ItA, [u0, u1, u2, u3] = x.vals ∧ x.Ok w := by
  obtain ⟨s, e0, _, hs⟩ := DataW.trod_string Tryz.underlying9 t0
  obtain ⟨t, e1, _, ht⟩ := DataW.trod_int Tryz.underlying3 t1
  obtain ⟨d, e2, _, hd⟩ := DataW.trod_int Tryz.underlying3 t2
  simp only [List.cons.injEq, and_true] at e0 e1 e2
  subst e0 e1 e2
  have ht' : -9223372036854775808 ≤ t ∧ t ≤ 9223372036854775807 := bounds_i64 ht
  have hd' : -9223372036854775808 ≤ d ∧ d ≤ 9223372036854775807 := bounds_i64 hd
  have hs' : s.size ≤ 9223372036854775807 := by unfold maxLen at hs; omega
  rcases open_ints Tryz.underlying22 Tryz.underlying5 (by kernel_rfl) t3 with ⟨hcs, _⟩ | ⟨a, l, c, zs, hcs, _, hl, hm, hz, _, hcell, hwz⟩
  · simp only [List.cons.injEq, and_true] at hcs
    subst hcs
    exact ⟨⟨s, t, d, none, 0, 0, []⟩, rfl, ⟨hs', ht', hd', by show 0 ≤ _; omega, rfl, fun h => absurd h (Nat.lt_irrefl 0), fun y hy => by simp at hy⟩⟩
  · simp only [List.cons.injEq, and_true] at hcs
    subst hcs
    have hle : l ≤ zs.length := by rw [hz]; split <;> omega
    refine ⟨⟨s, t, d, some a, l, c, zs.take l⟩, rfl, ⟨hs', ht', hd', by show l ≤ _; unfold maxLen at hm; omega, by show (zs.take l).length = l; simp; omega, ?_, ?_⟩⟩
    · intro hn
      show ∃ b o, some a = some ⟨b, o, none⟩ ∧ ∀ i, i < l → _
      replace hn : 0 < l := hn
      obtain ⟨b, off, spot⟩ := a
      have hsp : spot = none := by simpa [Addr.add] using World.cell?_spot (hcell 0 (by omega))
      subst hsp
      refine ⟨b, off, rfl, fun i hi => ?_⟩
      have := hcell i (by omega)
      rw [Addr.add_lit] at this
      rw [this]
      simp [hi]
    · intro y hy
      have := bounds_u8 (hwz y (List.mem_of_mem_take hy))
      omega

def ItemsIn (w : World) (p : Option Addr) (n : Nat) (its : List ItA) : Prop :=
  0 < n → ∃ b o, p = some ⟨b, o, none⟩ ∧ ∀ i j v, i < n → (its.getD i default).vals[j]? = some v → w.cell? ⟨b, o + i * 4 + j, none⟩ = some v

end Go.Proofs.YthfnechcddmjkaaGreatDoor
