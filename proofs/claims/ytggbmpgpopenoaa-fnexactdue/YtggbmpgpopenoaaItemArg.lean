/-
  An item that comes in as an argument, by its cells: a text, two numbers, a row of bytes. Conditions: none but that it can be read.
-/
import Derived.Test.YtggbmpgpopenoaaPlain
import Derived.Test.YtggbmpgpopenoaaInfo
import Derived.Lib.SmallJoins
import Derived.Deep.Slices
import Derived.Test.YtggbmpgpopenoaaRows
namespace Go.Proofs.Ytggbmpgpopenoaa
open Go.ChangeShapes Go.WideShapes Go.RowKit
set_option maxRecDepth 100000

/-- An item as it lies: its text, its topic, until when, its bytes' slice and these bytes. -/
structure ItA where
  s : ByteArray
  t : Int
  d : Int
  p : Option Addr
  n : Nat
  c : Nat
  xs : List Int
instance : Inhabited ItA := ⟨⟨ByteArray.empty, 0, 0, none, 0, 0, []⟩⟩
def ItA.vals (x : ItA) : List Value := [.string x.s, .int .i64 x.t, .int .i64 x.d, .slice x.p x.n x.c]

/-- What may be said of an item that can be read. -/
structure ItA.Ok (w : World) (x : ItA) : Prop where
  hs : x.s.size ≤ 9223372036854775807
  ht : -9223372036854775808 ≤ x.t ∧ x.t ≤ 9223372036854775807
  hd : -9223372036854775808 ≤ x.d ∧ x.d ≤ 9223372036854775807
  hn : x.n ≤ 9223372036854775807
  len : x.xs.length = x.n
  bytes : BytesIn w x.p x.n x.xs
  byte : ∀ y ∈ x.xs, 0 ≤ y ∧ y < 256

theorem ItA.Ok.on {w w' : World} {x : ItA} (h : x.Ok w) (b : Below w.heap.size w w') : x.Ok w' := ⟨h.hs, h.ht, h.hd, h.hn, h.len, in_below h.bytes b, h.byte⟩

/-- The cells of an item that can be read. -/
theorem item_cells {H : Type} {enc : TypeId × Value → H} {w : World} {base : Nat} {spare : Nat → Bool} {held : Bool} {fuel : Nat} {u0 u1 u2 u3 : Value} {y0 y1 y2 y3 : DataW H × List MemPlace}
    (t0 : DataW.trod enc Try.prog w base spare held fuel 9 [u0] = some y0) (t1 : DataW.trod enc Try.prog w base spare held fuel 3 [u1] = some y1) (t2 : DataW.trod enc Try.prog w base spare held fuel 3 [u2] = some y2) (t3 : DataW.trod enc Try.prog w base spare held fuel 22 [u3] = some y3) :
    ∃ x : ItA, [u0, u1, u2, u3] = x.vals ∧ x.Ok w := by
  obtain ⟨s, e0, _, hs⟩ := DataW.trod_string Try.underlying9 t0
  obtain ⟨t, e1, _, ht⟩ := DataW.trod_int Try.underlying3 t1
  obtain ⟨d, e2, _, hd⟩ := DataW.trod_int Try.underlying3 t2
  simp only [List.cons.injEq, and_true] at e0 e1 e2
  subst e0 e1 e2
  have ht' : -9223372036854775808 ≤ t ∧ t ≤ 9223372036854775807 := bounds_i64 ht
  have hd' : -9223372036854775808 ≤ d ∧ d ≤ 9223372036854775807 := bounds_i64 hd
  have hs' : s.size ≤ 9223372036854775807 := by unfold maxLen at hs; omega
  rcases open_ints Try.underlying22 Try.underlying5 (by kernel_rfl) t3 with ⟨hcs, _⟩ | ⟨a, l, c, zs, hcs, _, hl, hm, hz, _, hcell, hwz⟩
  · simp only [List.cons.injEq, and_true] at hcs
    subst hcs
    exact ⟨⟨s, t, d, none, 0, 0, []⟩, rfl, ⟨hs', ht', hd', by show 0 ≤ _; omega, rfl, fun h => absurd h (Nat.lt_irrefl 0), fun y hy => by simp at hy⟩⟩
  · simp only [List.cons.injEq, and_true] at hcs
    subst hcs
    have hle : l ≤ zs.length := by rw [hz]; split <;> omega
    refine ⟨⟨s, t, d, some a, l, c, zs.take l⟩, rfl, ⟨hs', ht', hd', by show l ≤ _; unfold maxLen at hm; omega, by show (zs.take l).length = l; simp; omega, ?_, ?_⟩⟩
    · intro hn
      show ∃ b o, some a = some ⟨b, o, none⟩ ∧ ∀ i, i < l → _
      replace hn : 0 < l := hn
      obtain ⟨b, off, spot⟩ := a
      have hsp : spot = none := by simpa [Addr.add] using World.cell?_spot (hcell 0 (by omega))
      subst hsp
      refine ⟨b, off, rfl, fun i hi => ?_⟩
      have := hcell i (by omega)
      rw [Addr.add_lit] at this
      rw [this]
      simp [hi]
    · intro y hy
      have := bounds_u8 (hwz y (List.mem_of_mem_take hy))
      omega

/-- The items its lie in a slice of n elements at p. -/
def ItemsIn (w : World) (p : Option Addr) (n : Nat) (its : List ItA) : Prop :=
  0 < n → ∃ b o, p = some ⟨b, o, none⟩ ∧ ∀ i j v, i < n → (its.getD i default).vals[j]? = some v → w.cell? ⟨b, o + i * 4 + j, none⟩ = some v

theorem itemsIn_on {w w' : World} {p : Option Addr} {n : Nat} {its : List ItA} (h : ItemsIn w p n its) (hb : Below w.heap.size w w') : ItemsIn w' p n its := by
  intro hn
  obtain ⟨b, o, rfl, hc⟩ := h hn
  refine ⟨b, o, rfl, fun i j v hi hv => ?_⟩
  have hlt : b < w.heap.size := World.block_lt_of_cell? w ⟨b, o + i * 4 + j, none⟩ (hc i j v hi hv)
  rw [hb.cell (p := ⟨b, o + i * 4 + j, none⟩) hlt]
  exact hc i j v hi hv

/-- A slice of items that comes in. -/
theorem items_open {H : Type} {enc : TypeId × Value → H} {w : World} {base : Nat} {spare : Nat → Bool} {held : Bool} {fuel : Nat} {v : Value} {y : DataW H × List MemPlace}
    (h : DataW.trod enc Try.prog w base spare held fuel 49 [v] = some y) :
    ∃ p n c its, v = .slice p n c ∧ n ≤ 9223372036854775807 ∧ its.length = n ∧ ItemsIn w p n its ∧ ∀ x ∈ its, x.Ok w := by
  have hC : Try.prog.cellsOf 45 = 4 := by kernel_rfl
  rcases Go.Deep.open_slice Try.underlying49 h with ⟨hcs, _⟩ | ⟨a, len, cap, m, fu, D, Pl, hcs, _, hl, hm, hmm, _, hel⟩
  · simp only [List.cons.injEq, and_true] at hcs
    subst hcs
    exact ⟨none, 0, 0, [], rfl, by omega, rfl, fun h => absurd h (Nat.lt_irrefl 0), fun x hx => by simp at hx⟩
  · simp only [List.cons.injEq, and_true] at hcs
    subst hcs
    have hlm : len ≤ m := by rw [hmm]; split <;> omega
    have each : ∀ i, i < len → ∃ x : ItA, (∀ j v, x.vals[j]? = some v → w.cell? (a.add (i * 4 + j)) = some v) ∧ x.Ok w := by
      intro i hi
      obtain ⟨cs', hc, ht⟩ := hel i (by omega)
      rw [hC] at hc
      obtain ⟨y0, y1, y2, y3, n, _, hlen, h0, h1, h2, h3⟩ := Go.Joins.trod_struct4 Try.underlying45 ht
      rw [hC] at hlen
      obtain ⟨c0, c1, c2, c3, rfl⟩ : ∃ c0 c1 c2 c3, cs' = [c0, c1, c2, c3] := by
        match cs', hlen with
        | [c0, c1, c2, c3], _ => exact ⟨c0, c1, c2, c3, rfl⟩
      have k1 : Try.prog.cellsOf 9 = 1 := by kernel_rfl
      have k2 : Try.prog.cellsOf 3 = 1 := by kernel_rfl
      have k3 : Try.prog.cellsOf 22 = 1 := by kernel_rfl
      obtain ⟨x, hx, ok⟩ := item_cells (by simpa [k1] using h0) (by simpa [k2] using h1) (by simpa [k2] using h2) (by simpa [k3] using h3)
      refine ⟨x, fun j v hv => ?_, ok⟩
      rw [← hx] at hv
      have := (World.cells?_some hc).2
      have hj : j < 4 := by
        have := (List.getElem?_eq_some_iff.1 hv).1
        simpa using this
      rw [← Go.Deep.add_add, (World.cells?_some hc).2.2 j hj]
      exact hv
    obtain ⟨f, hf⟩ := Go.Deep.choose_lt each
    refine ⟨some a, len, cap, (List.range len).map f, rfl, by unfold maxLen at hm; omega, by simp, ?_, ?_⟩
    · intro hn
      obtain ⟨b, off, spot⟩ := a
      have h0 := (hf 0 hn).1 0 _ rfl
      have hsp : spot = none := by simpa [Addr.add] using World.cell?_spot h0
      subst hsp
      refine ⟨b, off, rfl, fun i j v hi hv => ?_⟩
      have e : ((List.range len).map f).getD i default = f i := by simp [List.getD_eq_getElem?_getD, hi]
      rw [e] at hv
      have := (hf i hi).1 j v hv
      rw [Addr.add_lit] at this
      rw [← this, Nat.add_assoc]
    · intro x hx
      obtain ⟨i, hi, rfl⟩ := List.mem_map.1 hx
      exact (hf i (List.mem_range.1 hi)).2

end Go.Proofs.Ytggbmpgpopenoaa
