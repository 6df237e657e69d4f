/-
  A reader that is an argument, by its cells. No conditions beyond what a law's row says of its argument.
-/
import Derived.Test.YtelfejgpphoifaaReader
import Derived.Lib.SmallJoins
import Derived.Deep.Slices
import Derived.Test.YtelfejgpphoifaaRows
namespace Go.Proofs.Ytelfejgpphoifaa
open Go.ChangeShapes Go.WideShapes Go.ChangeAt Go.RowKit
set_option maxRecDepth 100000

/-- A row of bytes that can be read. -/
theorem row_cells {H : Type} {enc : TypeId × Value → H} {w : World} {base : Nat} {spare : Nat → Bool} {held : Bool} {fuel : Nat} {u : Value} {y : DataW H × List MemPlace}
    (t : DataW.trod enc Try.prog w base spare held fuel 22 [u] = some y) : ∃ x : RwA, u = x.val ∧ x.Ok w := by
  rcases open_ints Try.underlying22 Try.underlying5 (by kernel_rfl) t with ⟨hcs, _⟩ | ⟨a, l, c, zs, hcs, _, hl, hm, hz, _, hcell, hwz⟩
  · simp only [List.cons.injEq, and_true] at hcs
    subst hcs
    exact ⟨⟨none, 0, 0, []⟩, rfl, ⟨by show 0 ≤ _; omega, rfl, fun h => absurd h (Nat.lt_irrefl 0), fun y hy => by simp at hy⟩⟩
  · simp only [List.cons.injEq, and_true] at hcs
    subst hcs
    have hle : l ≤ zs.length := by rw [hz]; split <;> omega
    refine ⟨⟨some a, l, c, zs.take l⟩, rfl, ⟨by show l ≤ _; unfold maxLen at hm; omega, by show (zs.take l).length = l; simp; omega, ?_, ?_⟩⟩
    · intro hn
      show ∃ b o, some a = some ⟨b, o, none⟩ ∧ ∀ i, i < l → _
      replace hn : 0 < l := hn
      obtain ⟨b, off, spot⟩ := a
      have hsp : spot = none := by simpa [Addr.add] using World.cell?_spot (hcell 0 (by omega))
      subst hsp
      refine ⟨b, off, rfl, fun i hi => ?_⟩
      have := hcell i (by omega)
      rw [Addr.add_lit] at this
      rw [this]
      simp [hi]
    · intro y hy
      have := bounds_u8 (hwz y (List.mem_of_mem_take hy))
      omega

/-- A list of rows that comes in. -/
theorem rows_open {H : Type} {enc : TypeId × Value → H} {w : World} {base : Nat} {spare : Nat → Bool} {held : Bool} {fuel : Nat} {v : Value} {y : DataW H × List MemPlace}
    (h : DataW.trod enc Try.prog w base spare held fuel 23 [v] = some y) : ∃ p n c rs, v = .slice p n c ∧ Rows w p n rs := by
  have hC : Try.prog.cellsOf 22 = 1 := by kernel_rfl
  rcases Go.Deep.open_slice Try.underlying23 h with ⟨hcs, _⟩ | ⟨a, len, cap, m, fu, D, Pl, hcs, _, hl, hm, hmm, _, hel⟩
  · simp only [List.cons.injEq, and_true] at hcs
    subst hcs
    exact ⟨none, 0, 0, [], rfl, Rows.nil _ _⟩
  · simp only [List.cons.injEq, and_true] at hcs
    subst hcs
    have hlm : len ≤ m := by rw [hmm]; split <;> omega
    have each : ∀ i, i < len → ∃ x : RwA, w.cell? (a.add i) = some x.val ∧ x.Ok w := by
      intro i hi
      obtain ⟨cs', hc, ht⟩ := hel i (by omega)
      rw [hC] at hc
      have hsz := (World.cells?_some hc).2.1
      obtain ⟨c0, rfl⟩ : ∃ c0, cs' = [c0] := by
        match cs', hsz with
        | [c0], _ => exact ⟨c0, rfl⟩
      obtain ⟨x, rfl, ok⟩ := row_cells ht
      refine ⟨x, ?_, ok⟩
      have k := (World.cells?_some hc).2.2 0 (by omega)
      rw [Go.Deep.add_add] at k
      simpa using k
    obtain ⟨f, hf⟩ := Go.Deep.choose_lt each
    refine ⟨some a, len, cap, (List.range len).map f, rfl, ⟨by unfold maxLen at hm; omega, by simp, ?_, ?_⟩⟩
    · intro hn
      obtain ⟨b, off, spot⟩ := a
      have h0 := (hf 0 hn).1
      have hsp : spot = none := by simpa [Addr.add] using World.cell?_spot h0
      subst hsp
      refine ⟨b, off, rfl, fun i hi => ?_⟩
      have e : ((List.range len).map f).getD i default = f i := by simp [List.getD_eq_getElem?_getD, hi]
      have := (hf i hi).1
      rw [Addr.add_lit] at this
      rw [e, ← this]
    · intro x hx
      obtain ⟨i, hi, rfl⟩ := List.mem_map.1 hx
      exact (hf i (List.mem_range.1 hi)).2

theorem reader_open {H : Type} {enc : TypeId × Value → H} {w : World} {base b0 : Nat} {r : Reach} {spare : Nat → Bool} {held : Bool} {v : Value} {dt : DataW H} {pl : List MemPlace}
    (hv : Value.okWide Try.prog w r b0 25 v) (h : DataW.Trod enc Try.prog w base spare held 25 v dt pl) :
    ∃ x : RdA, v = .agg x.cells ∧ x.Ok w := by
  obtain ⟨u0, u1, u2, u3, y0, y1, y2, y3, fu, rfl, _, _, t0, t1, t2, t3⟩ := Go.Joins.open_agg4 Try.underlying25 (by kernel_rfl) (by kernel_rfl) hv h
  obtain ⟨s, rfl, ok0⟩ := row_cells t0
  obtain ⟨e, e1, _, he⟩ := DataW.trod_int Try.underlying3 t1
  simp only [List.cons.injEq, and_true] at e1
  subst e1
  obtain ⟨p, n, c, rs, rfl, ok2⟩ := rows_open t2
  obtain ⟨q, m, d, gs, rfl, ok3⟩ := rows_open t3
  exact ⟨⟨s, e, p, n, c, rs, q, m, d, gs⟩, rfl, ⟨ok0, bounds_i64 he, ok2, ok3⟩⟩

end Go.Proofs.Ytelfejgpphoifaa
